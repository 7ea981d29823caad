package factor

import (
	"iter"
	"math/bits"
	"slices"

	"gameplayer/api"
)

// node returns the number of the node of which a gate is one, or -1.
func node(net api.Net, g api.Gate) int {
	switch g.Kind {
	case api.GateBase:
		return g.Index
	case api.GateInput:
		return len(net.Bases) + g.Index
	}
	return -1
}

// links yields the two nodes of each link of a valid network. A link may come twice, once from each side.
func links(net api.Net) iter.Seq2[int, int] {
	return func(yield func(a, b int) bool) {
		c := newCones(net)
		for base, gate := range net.Next {
			for other := range c.of(gate) {
				if other != base && !yield(base, other) {
					return
				}
			}
		}
		for input, gate := range net.Legal {
			for other := range c.of(gate) {
				if other < len(net.Bases) && !yield(len(net.Bases)+input, other) {
					return
				}
			}
		}
	}
}

// cones has, for each gate of a network, the set of the nodes that have a gate in its cone.
type cones struct {
	nodes []int      // that have gates, ascending
	sets  [][]uint64 // of positions in that list, one bit each: lists would take much more time where gates read many others
}

func newCones(net api.Net) cones {
	var c cones
	for _, g := range net.Gates {
		if n := node(net, g); n >= 0 {
			c.nodes = append(c.nodes, n)
		}
	}
	slices.Sort(c.nodes)
	c.nodes = slices.Compact(c.nodes)
	for _, g := range net.Gates { // gates read only those before them
		set := make([]uint64, (len(c.nodes)+63)/64)
		if position, own := slices.BinarySearch(c.nodes, node(net, g)); own {
			set[position/64] |= 1 << (position % 64)
		}
		for _, read := range g.In {
			for i, word := range c.sets[read] {
				set[i] |= word
			}
		}
		c.sets = append(c.sets, set)
	}
	return c
}

// of yields the nodes that have a gate in the cone of a gate, ascending.
func (c cones) of(gate int) iter.Seq[int] {
	return func(yield func(node int) bool) {
		for i, word := range c.sets[gate] {
			for ; word != 0; word &= word - 1 { // without its lowest bit
				if !yield(c.nodes[64*i+bits.TrailingZeros64(word)]) {
					return
				}
			}
		}
	}
}

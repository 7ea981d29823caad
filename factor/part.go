package factor

import (
	"slices"

	"gameplayer/api"
	"gameplayer/network"
	"gameplayer/simplify"
)

// part is a part of a network.
type part struct {
	*api.Net      // from which it is taken
	bases, inputs []int
}

// divide returns the parts of a network, ascending by their first bases, and the idle inputs.
func divide(net api.Net) ([]part, []int, api.Errno) {
	if network.Check(net) != api.OK {
		return nil, nil, api.ErrInvalid
	}
	var parts []part
	var idle []int
	first := firsts(net)
	numbers := make([]int, len(net.Bases)) // of the parts, by their first bases
	for base := range net.Bases {
		if first[base] == base {
			numbers[base] = len(parts)
			parts = append(parts, part{Net: &net})
		}
		p := &parts[numbers[first[base]]]
		p.bases = append(p.bases, base)
	}
	for input := range net.Inputs {
		base := first[len(net.Bases)+input]
		if base >= len(net.Bases) { // the input itself
			idle = append(idle, input)
			continue
		}
		p := &parts[numbers[base]]
		p.inputs = append(p.inputs, input)
	}
	return parts, idle, api.OK
}

// firsts returns for each node of a valid network the first one with which links connect it.
func firsts(net api.Net) []int {
	before := make([]int, len(net.Bases)+len(net.Inputs)) // for each node itself, or one with a lower number with which it is connected
	for i := range before {
		before[i] = i
	}
	first := func(node int) int {
		for before[node] != node {
			before[node] = before[before[node]] // so that the way is shorter the next time
			node = before[node]
		}
		return node
	}
	for a, b := range links(net) {
		a, b = first(a), first(b)
		before[max(a, b)] = min(a, b)
	}
	for i := range before {
		before[i] = first(i)
	}
	return before
}

// find returns the part of a network that has some bases.
func find(net api.Net, bases []int) (part, api.Errno) {
	parts, _, _ := divide(net)
	for _, p := range parts {
		if slices.Equal(p.bases, bases) {
			return p, api.OK
		}
	}
	return part{}, api.ErrInvalid
}

// split returns the network of a part. ErrTooLarge if the part needs as many gates as a network may have, none of which can say that no state is terminal.
func (p part) split() (api.Net, api.Errno) {
	net := simplify.Net(p.cut())
	is := func(kind int) func(g api.Gate) bool { return func(g api.Gate) bool { return g.Kind == kind } }
	net.Terminal = slices.IndexFunc(net.Gates, is(api.GateFalse))
	switch {
	case net.Terminal >= 0:
	case len(net.Gates) < api.MaxGates:
		net.Terminal = len(net.Gates)
		net.Gates = append(net.Gates, api.Gate{Kind: api.GateFalse})
	default: // whether a state is terminal is asked without inputs
		net.Terminal = slices.IndexFunc(net.Gates, is(api.GateInput))
	}
	if net.Terminal < 0 {
		return api.Net{}, api.ErrTooLarge
	}
	return net, api.OK
}

// cut returns the network of a part with the gates of the whole one; its terminal states have no meaning.
func (p part) cut() api.Net {
	cut := api.Net{Gates: p.gates(), Roles: p.Roles, Initial: Project(p.bases, p.Initial)}
	for _, base := range p.bases {
		cut.Bases = append(cut.Bases, p.Bases[base])
		cut.Next = append(cut.Next, p.Next[base])
	}
	for _, input := range p.inputs {
		cut.Inputs = append(cut.Inputs, p.Inputs[input])
		cut.Legal = append(cut.Legal, p.Legal[input])
	}
	cut.Terminal = cut.Next[0] // a gate that is needed anyway
	return cut
}

// gates returns the gates with the numbers that bases and inputs have within the part. Gates of other ones are false: the outputs of the part depend on no other base, its Next gates on no other input, and no input is given where the legal moves are asked for.
func (p part) gates() []api.Gate {
	nodes := map[int][]int{api.GateBase: p.bases, api.GateInput: p.inputs}
	gates := slices.Clone(p.Gates)
	for i, g := range gates {
		l, numbered := nodes[g.Kind]
		if !numbered {
			continue
		}
		gates[i] = api.Gate{Kind: api.GateFalse}
		if position, own := slices.BinarySearch(l, g.Index); own {
			gates[i] = api.Gate{Kind: g.Kind, Index: position}
		}
	}
	return gates
}

package simplify

import (
	"slices"

	"gameplayer/api"
	"gameplayer/clone"
)

// identity is what gates that have the same value whatever is given have in common.
type identity struct {
	kind, index int
	in          string // the numbers of In, two bytes each: there are at most MaxGates
}

func identify(g api.Gate) identity {
	in := make([]byte, 0, 2*len(g.In))
	for _, i := range g.In {
		in = append(in, byte(i>>8), byte(i))
	}
	return identity{g.Kind, g.Index, string(in)}
}

// joins reports whether a gate may read several others.
func joins(g api.Gate) bool { return g.Kind == api.GateAnd || g.Kind == api.GateOr }

// builder makes the gates of a network.
type builder struct {
	gates   []api.Gate
	numbers map[identity]int // of the gates that find has added
}

func newBuilder() *builder { return &builder{numbers: map[identity]int{}} }

// add adds a gate and returns its number.
func (b *builder) add(g api.Gate) int {
	b.gates = append(b.gates, g)
	return len(b.gates) - 1
}

// find returns the number of a gate that is the same, which is added unless there is one.
func (b *builder) find(g api.Gate) int {
	id := identify(g)
	number, met := b.numbers[id]
	if !met {
		number = b.add(g)
		b.numbers[id] = number
	}
	return number
}

// fold returns the number of a gate of a permitted form that has the value of another one. The given function provides it unless it is one that is read. All gates that are read have permitted forms.
func (b *builder) fold(g api.Gate, provide func(g api.Gate) int) int {
	switch {
	case g.Kind == api.GateNot:
		return b.foldNot(g, provide)
	case joins(g):
		return b.foldJoin(g, provide)
	}
	return provide(g)
}

func (b *builder) foldNot(g api.Gate, provide func(g api.Gate) int) int {
	switch read := b.gates[g.In[0]]; read.Kind {
	case api.GateFalse:
		return provide(api.Gate{Kind: api.GateTrue})
	case api.GateTrue:
		return provide(api.Gate{Kind: api.GateFalse})
	case api.GateNot:
		return read.In[0]
	}
	return provide(g)
}

func (b *builder) foldJoin(g api.Gate, provide func(g api.Gate) int) int {
	decides, ignored := api.GateFalse, api.GateTrue // of what is read
	if g.Kind == api.GateOr {
		decides, ignored = ignored, decides
	}
	is := func(kind int) func(i int) bool { return func(i int) bool { return b.gates[i].Kind == kind } }
	if slices.ContainsFunc(g.In, is(decides)) {
		return provide(api.Gate{Kind: decides})
	}
	g.In = slices.DeleteFunc(g.In, is(ignored))
	switch len(g.In) {
	case 0:
		return provide(api.Gate{Kind: ignored})
	case 1:
		return g.In[0]
	}
	return provide(g)
}

// rebuild returns a valid network with other gates. For each gate in turn, with its number and with In that has the numbers of new gates, replace returns the number of the new gate that has its value.
func (b *builder) rebuild(net api.Net, replace func(number int, g api.Gate) int) api.Net {
	numbers := make([]int, len(net.Gates)) // of the new gates
	renumber := func(l []int) []int {
		renumbered := slices.Clone(l)
		for i, gate := range l {
			renumbered[i] = numbers[gate]
		}
		return renumbered
	}
	for i, g := range net.Gates {
		g.In = renumber(g.In)
		slices.Sort(g.In)
		g.In = slices.Compact(g.In)
		numbers[i] = replace(i, g)
	}
	net.Gates = nil // they need not be copied
	rebuilt := clone.Net(net)
	rebuilt.Gates, rebuilt.Next, rebuilt.Legal, rebuilt.Terminal = b.gates, renumber(net.Next), renumber(net.Legal), numbers[net.Terminal]
	for _, l := range [][]api.Output{rebuilt.Goals, rebuilt.Sees} {
		for i := range l {
			l[i].Gate = numbers[l[i].Gate]
		}
	}
	return rebuilt
}

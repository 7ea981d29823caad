package evaluate_test

import (
	"math/rand/v2"
	"slices"
	"testing"

	"gameplayer/api"
	"gameplayer/compile"
	"gameplayer/evaluate"
	"gameplayer/logic"
	"gameplayer/network"
	"gameplayer/reach"
	"gameplayer/sample"
	"gameplayer/simplify"
	"gameplayer/term"
)

// valuesOf are the values of the gates, for which there must be no error.
func valuesOf(t *testing.T, n api.Net, state, inputs []int) []bool {
	t.Helper()
	values, e := evaluate.Values(n, state, inputs)
	if e != api.OK || len(values) != len(n.Gates) {
		t.Fatalf("%s, %v, %v: %v, %d", network.Text(n), state, inputs, values, e)
	}
	return values
}

// outcomes are the values of all outputs as the functions give them, in the order of sample.Results.
func outcomes(t *testing.T, n api.Net, state, inputs []int) []bool {
	next, a := evaluate.Next(n, state, inputs)
	legal, b := evaluate.Legal(n, state)
	ends, c := evaluate.Terminal(n, state)
	var l []bool
	for i := range n.Bases {
		l = append(l, slices.Contains(next, i))
	}
	for i := range n.Inputs {
		l = append(l, slices.Contains(legal, i))
	}
	for _, o := range n.Goals {
		goals, e := evaluate.Goals(n, state, o.Role)
		l = append(l, slices.Contains(goals, o.Value) && e == api.OK && slices.IsSorted(goals))
	}
	for _, o := range n.Sees {
		sees, e := evaluate.Sees(n, state, inputs, o.Role)
		l = append(l, term.Find(sees, o.Term) >= 0 && e == api.OK && slices.IsSortedFunc(sees, term.Compare))
	}
	if a != api.OK || b != api.OK || c != api.OK || !slices.IsSorted(next) || !slices.IsSorted(legal) {
		t.Fatalf("%v %d, %v %d, %v %d", next, a, legal, b, ends, c)
	}
	return append(l, ends)
}

// expected are those values by the definition: the ones that are for no inputs are taken from the results for none.
func expected(n api.Net, state, inputs []int) []bool {
	given, none := sample.Results(n, state, inputs), sample.Results(n, state, nil)
	bases, moves, goals, sees := len(n.Bases), len(n.Inputs), len(n.Goals), len(n.Sees)
	return slices.Concat(given[:bases], none[bases:bases+moves+goals], given[bases+moves+goals:bases+moves+goals+sees], none[len(none)-1:])
}

// P23.1 to P23.4: random networks against the definition
func TestRandomNetworks(t *testing.T) {
	r := rand.New(rand.NewPCG(23, 1))
	counts := map[bool]int{}
	for range 3000 {
		n := sample.AnyNet(r.IntN)
		for range 4 {
			state, inputs := sample.Subset(r.IntN, len(n.Bases)), sample.Subset(r.IntN, len(n.Inputs))
			if got, want := valuesOf(t, n, state, inputs), sample.Values(n, state, inputs); !slices.Equal(got, want) {
				t.Fatalf("%s, %v, %v: %v, want %v", network.Text(n), state, inputs, got, want)
			}
			got, want := outcomes(t, n, state, inputs), expected(n, state, inputs)
			if !slices.Equal(got, want) {
				t.Fatalf("%s, %v, %v: %v, want %v", network.Text(n), state, inputs, got, want)
			}
			for _, value := range got {
				counts[value]++
			}
		}
	}
	if counts[true] < 20000 || counts[false] < 20000 {
		t.Error(counts)
	}
}

// more adds numbers below a count to a list.
func more(r *rand.Rand, l []int, count int) []int {
	l = append(slices.Clone(l), sample.Subset(r.IntN, count)...)
	slices.Sort(l)
	return slices.Compact(l)
}

// P23.5: without gates GateNot no value becomes false when bases and inputs are added.
func TestMonotonic(t *testing.T) {
	r := rand.New(rand.NewPCG(23, 5))
	grown := 0
	for range 3000 {
		n := sample.AnyNet(r.IntN)
		for i, g := range n.Gates {
			if g.Kind == api.GateNot {
				n.Gates[i].Kind = api.GateAnd + r.IntN(2)
			}
		}
		state, inputs := sample.Subset(r.IntN, len(n.Bases)), sample.Subset(r.IntN, len(n.Inputs))
		before := valuesOf(t, n, state, inputs)
		after := valuesOf(t, n, more(r, state, len(n.Bases)), more(r, inputs, len(n.Inputs)))
		for i := range before {
			if before[i] && !after[i] {
				t.Fatalf("%s, %v, %v: %v, then %v", network.Text(n), state, inputs, before, after)
			}
			if before[i] != after[i] {
				grown++
			}
		}
	}
	if grown < 1000 {
		t.Error(grown)
	}
}

// P23.6: a base or an input that is in no gate of the cone of a gate does not matter for that one.
func TestCone(t *testing.T) {
	r := rand.New(rand.NewPCG(23, 6))
	same, others := 0, 0
	for range 2000 {
		n := sample.AnyNet(r.IntN)
		kind, count := api.GateBase, len(n.Bases)
		if r.IntN(2) == 0 {
			kind, count = api.GateInput, len(n.Inputs)
		}
		if count == 0 {
			continue
		}
		index, given := r.IntN(count), [2][]int{sample.Subset(r.IntN, len(n.Bases)), sample.Subset(r.IntN, len(n.Inputs))}
		before := valuesOf(t, n, given[0], given[1])
		changed := &given[kind-api.GateBase]
		if i, found := slices.BinarySearch(*changed, index); found {
			*changed = slices.Delete(*changed, i, i+1)
		} else {
			*changed = slices.Insert(*changed, i, index)
		}
		after := valuesOf(t, n, given[0], given[1])
		for i := range before {
			reads := slices.ContainsFunc(network.Cone(n, i), func(k int) bool { return n.Gates[k].Kind == kind && n.Gates[k].Index == index })
			if !reads && before[i] != after[i] {
				t.Fatalf("%s: gate %d has become %v", network.Text(n), i, after[i])
			}
			if !reads {
				same++
			} else if before[i] != after[i] {
				others++
			}
		}
	}
	if same < 5000 || others < 1000 {
		t.Error(same, others)
	}
}

// play is a game with one of its networks.
type play struct {
	game *logic.Game
	net  api.Net
}

// state are the numbers of the bases of a state.
func (p play) state(facts []api.Term) []int {
	var l []int
	for _, f := range facts {
		l = append(l, term.Find(p.net.Bases, f))
	}
	return l
}

// inputs are the inputs of moves of roles.
func (p play) inputs(role int, moves ...api.Term) []int {
	var l []int
	for i, m := range moves {
		l = append(l, slices.IndexFunc(p.net.Inputs, func(x api.Input) bool { return x.Role == role+i && term.Compare(x.Move, m) == 0 }))
	}
	return l
}

// checkState compares what holds in a state by the rules and by the network.
func (p play) checkState(t *testing.T, facts []api.Term) {
	t.Helper()
	state := p.state(facts)
	legal, _ := evaluate.Legal(p.net, state)
	ends, _ := evaluate.Terminal(p.net, state)
	var all []int
	for role := range p.game.Roles() {
		moves, _ := p.game.Legal(facts, role)
		for _, m := range moves {
			all = append(all, p.inputs(role, m)...)
		}
		goals, _ := evaluate.Goals(p.net, state, role)
		if value, e := p.game.Goal(facts, role); e == api.OK && !slices.Equal(goals, []int{value}) || e == api.ErrGoal && len(goals) == 1 {
			t.Fatalf("%v: goals %v of %d, want %d, %d", facts, goals, role, value, e)
		}
	}
	if want, _ := p.game.Terminal(facts); !slices.Equal(legal, all) || ends != want {
		t.Fatalf("%v: legal %v, want %v; terminal %v", facts, legal, all, ends)
	}
}

// checkStep compares what a joint move leads to by the rules and by the network.
func (p play) checkStep(t *testing.T, facts, joint []api.Term) {
	t.Helper()
	state, inputs := p.state(facts), p.inputs(0, joint...)
	slices.Sort(inputs)
	next, _ := evaluate.Next(p.net, state, inputs)
	if want, _ := p.game.Next(facts, joint); !slices.Equal(next, p.state(want)) {
		t.Fatalf("%v, %v: next %v, want %v", facts, joint, next, want)
	}
	for role := range p.game.Roles() {
		sees, _ := evaluate.Sees(p.net, state, inputs, role)
		if want, _ := p.game.Sees(facts, joint, role); term.CompareList(sees, want) != 0 && p.game.Hidden() {
			t.Fatalf("%v, %v: role %d sees %v, want %v", facts, joint, role, sees, want)
		}
	}
}

// W1: the networks of games, simplified or not, have what the rules give in the states that are reached.
func TestGames(t *testing.T) {
	r := rand.New(rand.NewPCG(23, 7))
	list := [][]api.Rule{sample.Rules(sample.Lamp), sample.Rules(sample.Coin), sample.Rules(sample.Noughts)}
	for range 20 {
		list = append(list, sample.Any(r.IntN), sample.AnyWalk(r.IntN), sample.AnyDuel(r.IntN, true))
	}
	states, steps := 0, 0
	for _, l := range list {
		g, e := logic.New(l)
		n, also := compile.Net(l)
		if e != api.OK || also != api.OK {
			t.Fatal(e, also)
		}
		x, _ := reach.Graph(g, 2)
		for _, p := range []play{{g, n}, {g, simplify.Net(n)}} {
			if !slices.Equal(p.net.Initial, p.state(g.Initial())) {
				t.Fatal(p.net.Initial)
			}
			for _, s := range x.States {
				p.checkState(t, s)
			}
			for _, s := range x.Steps {
				p.checkStep(t, x.States[s.From], s.Joint)
			}
		}
		states, steps = states+len(x.States), steps+len(x.Steps)
	}
	if states < 200 || steps < 500 {
		t.Error(states, steps)
	}
}

package sample_test

import (
	"fmt"
	"math/rand/v2"
	"slices"
	"testing"

	"gameplayer/api"
	"gameplayer/check"
	"gameplayer/ground"
	"gameplayer/network"
	"gameplayer/relax"
	"gameplayer/sample"
)

// The games are valid, and random ones are not all alike.
func TestGames(t *testing.T) {
	for _, text := range []string{sample.Lamp, sample.Noughts, sample.Coin} {
		if atoms, e := relax.Atoms(sample.Rules(text)); len(atoms) == 0 || e != api.OK {
			t.Errorf("%s: %d", text, e)
		}
	}
	r := rand.New(rand.NewPCG(1, 2))
	roles, chance, hidden := map[int]int{}, 0, 0
	for range 200 {
		for _, l := range [][]api.Rule{sample.Any(r.IntN), sample.AnyWalk(r.IntN), sample.AnyDuel(r.IntN, r.IntN(2) == 0)} {
			if atoms, e := relax.Atoms(l); len(atoms) == 0 || e != api.OK {
				t.Fatal(l, e)
			}
			roles[len(check.Roles(l))]++
			chance += min(check.Chance(l)+1, 1)
			hidden += map[bool]int{true: 1}[check.Hidden(l)]
		}
	}
	if roles[1] < 50 || roles[2] < 50 || roles[3] < 20 || chance < 50 || hidden < 50 {
		t.Error(roles, chance, hidden)
	}
}

// A change of a copy that shares no memory is not seen in the original, and one of a part is.
func TestSpoil(t *testing.T) {
	l := sample.Terms("a, f(g(b),c)")
	before := sample.Show(l)
	sample.Spoil(sample.Roomy(l))
	if sample.Show(l) != before {
		t.Error(sample.Show(l))
	}
	sample.Spoil(l[1].Args)
	if sample.Show(l) == before {
		t.Error(sample.Show(l))
	}
	rules := sample.Rules("p(f(X)) if q(f(X)).")
	text := sample.ShowRules(rules)
	sample.SpoilRules(sample.RoomyRules(rules))
	if sample.ShowRules(rules) != text {
		t.Error(sample.ShowRules(rules))
	}
	sample.Spoil(rules[0].Body[0].Atom.Args)
	if sample.ShowRules(rules) == text {
		t.Error(text)
	}
}

// Networks are valid, and what is made of a listing has that listing.
func TestNets(t *testing.T) {
	r := rand.New(rand.NewPCG(1, 3))
	var counts [api.GateNot + 1]int
	large := 0
	for range 300 {
		n := sample.AnyNet(r.IntN)
		text := network.Text(n)
		if network.Check(n) != api.OK || network.Text(sample.Net(text)) != text {
			t.Fatal(n)
		}
		for kind, count := range network.Counts(n) {
			counts[kind] += count
		}
		large += min(len(n.Bases)*len(n.Inputs)*len(n.Goals)*len(n.Sees)/20, 1)
	}
	if slices.Min(counts[:]) < 100 || large < 50 {
		t.Error(counts, large)
	}
	if text := network.Text(sample.Net(sample.Switch)); text != sample.Switch {
		t.Error(text)
	}
}

// A network whose lists share memory is told apart, and nothing of a network is left when it is spoilt.
func TestSharesAndSpoilNet(t *testing.T) {
	fresh := func() api.Net { return sample.RoomyNet(sample.Net(listing)) }
	n := fresh()
	if sample.SharesNet(n) {
		t.Error("a copy shares memory")
	}
	for i, change := range []func(n *api.Net){
		func(n *api.Net) { n.Next = n.Legal }, func(n *api.Net) { n.Gates[2].In = n.Initial[:0] }, func(n *api.Net) { n.Gates[3].In = n.Gates[2].In[1:] }, func(n *api.Net) { n.Roles = n.Bases[:1] },
		func(n *api.Net) { n.Inputs[0].Move.Args = n.Bases[1].Args }, func(n *api.Net) { n.Sees[0].Term.Args = n.Inputs[0].Move.Args[0].Args }, func(n *api.Net) { n.Goals = n.Sees },
	} {
		n := fresh()
		change(&n)
		if !sample.SharesNet(n) {
			t.Error(i)
		}
	}
	parts := []func(n *api.Net) api.Net{
		func(n *api.Net) api.Net { return api.Net{Gates: n.Gates[:0]} }, func(n *api.Net) api.Net { return api.Net{Gates: []api.Gate{n.Gates[2]}} }, func(n *api.Net) api.Net { return api.Net{Roles: n.Roles} }, func(n *api.Net) api.Net { return api.Net{Bases: n.Bases[1:]} }, func(n *api.Net) api.Net { return api.Net{Bases: n.Bases[1].Args} },
		func(n *api.Net) api.Net { return api.Net{Inputs: n.Inputs} }, func(n *api.Net) api.Net { return api.Net{Inputs: []api.Input{{Move: n.Inputs[0].Move}}} }, func(n *api.Net) api.Net { return api.Net{Initial: n.Initial} }, func(n *api.Net) api.Net { return api.Net{Next: n.Next[:0]} }, func(n *api.Net) api.Net { return api.Net{Legal: n.Legal[1:]} },
		func(n *api.Net) api.Net { return api.Net{Goals: n.Goals} }, func(n *api.Net) api.Net { return api.Net{Sees: n.Sees} }, func(n *api.Net) api.Net { return api.Net{Sees: []api.Output{{Term: n.Sees[0].Term}}} },
	}
	for i, part := range parts {
		n := fresh()
		before := sample.ShowNet(n)
		sample.SpoilNet(part(&n))
		if sample.ShowNet(n) == before {
			t.Error(i)
		}
	}
}

// listing is that of a network with all sorts of lists.
const listing = "0 base 0\n1 input 0\n2 and 0 1\n3 or 0 1 2\nrole 0 x\nfact 0 a\nfact 1 g(f(b),c)\nmove 0 0 f(g(a,b))\ninitial 0\nnext 0 2\nnext 1 3\nlegal 0 0\ngoal 0 0 1\nsees 0 f(a) 2\nterminal 2\n"

// Copies of networks and of graphs share no memory with what was copied, and have spare capacity that is shown.
func TestRoomy(t *testing.T) {
	text := sample.Switch + "hidden\n"
	n := sample.RoomyNet(sample.Net(text))
	n.Sees = append(n.Sees, api.Output{Term: sample.Roomy(sample.Terms("f(a)"))[0]})
	before := sample.ShowNet(n)
	for i, spoil := range []func(n *api.Net){
		func(n *api.Net) { n.Gates[2].In[0] = 1 }, func(n *api.Net) { n.Gates[0].Kind = 1 }, func(n *api.Net) { n.Roles[0].Name = "z" }, func(n *api.Net) { n.Bases[0].Name = "z" }, func(n *api.Net) { n.Inputs[0].Role = 9 }, func(n *api.Net) { n.Sees[0].Term.Args[0].Name = "z" },
		func(n *api.Net) { _ = append(n.Gates, api.Gate{Index: 7}) }, func(n *api.Net) { _ = append(n.Gates[2].In, 7) }, func(n *api.Net) { _ = append(n.Next, 7) }, func(n *api.Net) { _ = append(n.Legal, 7) }, func(n *api.Net) { _ = append(n.Initial, 7) }, func(n *api.Net) { _ = append(n.Goals, api.Output{Gate: 7}) }, func(n *api.Net) { _ = append(n.Sees, api.Output{Gate: 7}) }, func(n *api.Net) { _ = append(n.Inputs, api.Input{Role: 7}) },
	} {
		copied := sample.RoomyNet(n)
		shown := sample.ShowNet(copied)
		spoil(&copied)
		if sample.ShowNet(copied) == shown || sample.ShowNet(n) != before {
			t.Error(i)
		}
	}
	x := sample.RoomyGraph(api.Graph{States: [][]api.Term{sample.Terms("a")}, Depths: []int{0}, Steps: []api.Step{{Joint: sample.Terms("f(b)")}}})
	before = sample.ShowGraph(x)
	for i, spoil := range []func(x *api.Graph){
		func(x *api.Graph) { x.States[0][0].Name = "z" }, func(x *api.Graph) { x.Steps[0].Joint[0].Args[0].Name = "z" }, func(x *api.Graph) { x.Steps[0].To = 7 }, func(x *api.Graph) { x.Depths[0] = 7 },
		func(x *api.Graph) { _ = append(x.States, sample.Terms("b")) }, func(x *api.Graph) { _ = append(x.Depths, 7) }, func(x *api.Graph) { _ = append(x.Steps, api.Step{To: 7}) }, func(x *api.Graph) { _ = append(x.States[0], sample.Terms("b")...) },
	} {
		copied := sample.RoomyGraph(x)
		shown := sample.ShowGraph(copied)
		spoil(&copied)
		if sample.ShowGraph(copied) == shown || sample.ShowGraph(x) != before {
			t.Error(i)
		}
	}
}

// The values of gates of all kinds, and those of all outputs in their order
func TestValues(t *testing.T) {
	n := sample.Net("0 false\n1 true\n2 base 0\n3 base 1\n4 input 0\n5 input 1\n6 and 2 3\n7 or 2 3\n8 and 4 5\n9 or 4 5\n10 not 2\n11 not 9\nrole 0 x\nfact 0 a\nfact 1 b\nmove 0 0 a\nmove 1 0 b\ninitial\nnext 0 6\nnext 1 7\nlegal 0 8\nlegal 1 9\ngoal 0 0 10\nsees 0 a 11\nterminal 1\n")
	for _, c := range []struct {
		state, inputs   []int
		values, results string
	}{
		{nil, nil, "[false true false false false false false false false false true true]", "[false false false false true true true]"},
		{[]int{0}, []int{1}, "[false true true false false true false true false true false false]", "[false true false true false false true]"},
		{[]int{1}, []int{0, 1}, "[false true false true true true false true true true true false]", "[false true true true true false true]"},
		{[]int{0, 1}, []int{0}, "[false true true true true false true true false true false false]", "[true true false true false false true]"},
	} {
		if got := fmt.Sprint(sample.Values(n, c.state, c.inputs)); got != c.values {
			t.Error(c.state, c.inputs, got)
		}
		if got := fmt.Sprint(sample.Results(n, c.state, c.inputs)); got != c.results {
			t.Error(c.state, c.inputs, got)
		}
	}
	r := rand.New(rand.NewPCG(1, 4))
	met := map[string]int{}
	for range 1000 {
		met[fmt.Sprint(sample.Subset(r.IntN, 3))]++
	}
	if len(met) != 8 || met["[]"] > 500 {
		t.Error(met)
	}
}

// The values of gates of all kinds in three-valued logic, and, where nothing is unknown, those of Values
func TestTernary(t *testing.T) {
	n := sample.Net("0 false\n1 true\n2 base 0\n3 base 1\n4 input 0\n5 input 1\n6 and 2 3\n7 or 2 3\n8 and 4 5\n9 or 4 5\n10 not 2\n11 not 9\nrole 0 x\nfact 0 a\nfact 1 b\nmove 0 0 a\nmove 1 0 b\ninitial\nnext 0 6\nnext 1 7\nlegal 0 8\nlegal 1 9\nterminal 1\n")
	for _, c := range []struct {
		bases, inputs []int
		want          string
	}{
		{[]int{2, 2}, []int{2, 2}, "[0 1 2 2 2 2 2 2 2 2 2 2]"},
		{[]int{0, 2}, []int{2, 1}, "[0 1 0 2 2 1 0 2 2 1 1 0]"},
		{[]int{1, -1}, []int{7, 0}, "[0 1 1 2 2 0 2 1 0 2 0 2]"},
		{[]int{1, 0}, []int{1, 1}, "[0 1 1 0 1 1 0 1 1 1 0 0]"},
	} {
		if got := fmt.Sprint(sample.Ternary(n, c.bases, c.inputs)); got != c.want {
			t.Errorf("%v, %v: %s, want %s", c.bases, c.inputs, got, c.want)
		}
	}
	r := rand.New(rand.NewPCG(1, 6))
	for range 300 {
		n := sample.AnyNet(r.IntN)
		state, inputs := sample.Subset(r.IntN, len(n.Bases)), sample.Subset(r.IntN, len(n.Inputs))
		bases, moves := make([]int, len(n.Bases)), make([]int, len(n.Inputs))
		for _, i := range state {
			bases[i] = 1
		}
		for _, i := range inputs {
			moves[i] = 1
		}
		got := sample.Ternary(n, bases, moves)
		for i, value := range sample.Values(n, state, inputs) {
			if got[i] != map[bool]int{true: 1}[value] {
				t.Fatal(network.Text(n), state, inputs, got)
			}
		}
	}
}

// Ground descriptions have the atoms and rules of their texts, and copies of them share no memory with what was copied.
func TestGround(t *testing.T) {
	fresh := func() api.Ground {
		return sample.Ground("p(f(c)), b, a", "b if p(f(c)) and a and not b. b if a. a if not p(f(c)) and not a and a and b and a. b if a.")
	}
	g := fresh()
	if !ground.Valid(g) || fmt.Sprint(g) != "{[{a []} {b []} {p [{f [{c []}]}]}] [{0 [0 1] [0 2]} {1 [0] []} {1 [0 2] [1]}]}" {
		t.Error(g)
	}
	before := sample.ShowGround(sample.RoomyGround(g))
	for i, spoil := range []func(g *api.Ground){
		func(g *api.Ground) { g.Atoms[0].Name = "z" }, func(g *api.Ground) { g.Atoms[2].Args[0].Name = "z" }, func(g *api.Ground) { g.Rules[0].Head = 7 }, func(g *api.Ground) { g.Rules[0].Pos[0] = 7 }, func(g *api.Ground) { g.Rules[2].Neg[0] = 7 },
		func(g *api.Ground) { _ = append(g.Atoms, api.Term{Name: "z"}) }, func(g *api.Ground) { _ = append(g.Rules, api.GroundRule{Head: 7}) }, func(g *api.Ground) { _ = append(g.Rules[1].Pos, 7) }, func(g *api.Ground) { _ = append(g.Rules[1].Neg, 7) },
	} {
		copied := sample.RoomyGround(g)
		spoil(&copied)
		if sample.ShowGround(copied) == before || sample.ShowGround(sample.RoomyGround(g)) != before {
			t.Error(i)
		}
	}
}

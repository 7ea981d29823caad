package sample_test

import (
	"math/rand/v2"
	"slices"
	"testing"

	"gameplayer/api"
	"gameplayer/check"
	"gameplayer/network"
	"gameplayer/relax"
	"gameplayer/sample"
)

// The games are valid, and random ones are not all alike.
func TestGames(t *testing.T) {
	for _, text := range []string{sample.Lamp, sample.Noughts, sample.Coin} {
		if atoms, e := relax.Atoms(sample.Rules(text)); len(atoms) == 0 || e != api.OK {
			t.Errorf("%s: %d", text, e)
		}
	}
	r := rand.New(rand.NewPCG(1, 2))
	roles, chance, hidden := map[int]int{}, 0, 0
	for range 200 {
		for _, l := range [][]api.Rule{sample.Any(r.IntN), sample.AnyWalk(r.IntN), sample.AnyDuel(r.IntN, r.IntN(2) == 0)} {
			if atoms, e := relax.Atoms(l); len(atoms) == 0 || e != api.OK {
				t.Fatal(l, e)
			}
			roles[len(check.Roles(l))]++
			chance += min(check.Chance(l)+1, 1)
			hidden += map[bool]int{true: 1}[check.Hidden(l)]
		}
	}
	if roles[1] < 50 || roles[2] < 50 || roles[3] < 20 || chance < 50 || hidden < 50 {
		t.Error(roles, chance, hidden)
	}
}

// A change of a copy that shares no memory is not seen in the original, and one of a part is.
func TestSpoil(t *testing.T) {
	l := sample.Terms("a, f(g(b),c)")
	before := sample.Show(l)
	sample.Spoil(sample.Roomy(l))
	if sample.Show(l) != before {
		t.Error(sample.Show(l))
	}
	sample.Spoil(l[1].Args)
	if sample.Show(l) == before {
		t.Error(sample.Show(l))
	}
	rules := sample.Rules("p(f(X)) if q(f(X)).")
	text := sample.ShowRules(rules)
	sample.SpoilRules(sample.RoomyRules(rules))
	if sample.ShowRules(rules) != text {
		t.Error(sample.ShowRules(rules))
	}
	sample.Spoil(rules[0].Body[0].Atom.Args)
	if sample.ShowRules(rules) == text {
		t.Error(text)
	}
}

// Networks are valid, and what is made of a listing has that listing.
func TestNets(t *testing.T) {
	r := rand.New(rand.NewPCG(1, 3))
	var counts [api.GateNot + 1]int
	large := 0
	for range 300 {
		n := sample.AnyNet(r.IntN)
		text := network.Text(n)
		if network.Check(n) != api.OK || network.Text(sample.Net(text)) != text {
			t.Fatal(n)
		}
		for kind, count := range network.Counts(n) {
			counts[kind] += count
		}
		large += min(len(n.Bases)*len(n.Inputs)*len(n.Goals)*len(n.Sees)/20, 1)
	}
	if slices.Min(counts[:]) < 100 || large < 50 {
		t.Error(counts, large)
	}
	if text := network.Text(sample.Net(sample.Switch)); text != sample.Switch {
		t.Error(text)
	}
}

// Copies of networks and of graphs share no memory with what was copied, and have spare capacity that is shown.
func TestRoomy(t *testing.T) {
	text := sample.Switch + "hidden\n"
	n := sample.RoomyNet(sample.Net(text))
	n.Sees = append(n.Sees, api.Output{Term: sample.Roomy(sample.Terms("f(a)"))[0]})
	before := sample.ShowNet(n)
	for i, spoil := range []func(n *api.Net){
		func(n *api.Net) { n.Gates[2].In[0] = 1 }, func(n *api.Net) { n.Gates[0].Kind = 1 }, func(n *api.Net) { n.Roles[0].Name = "z" }, func(n *api.Net) { n.Bases[0].Name = "z" }, func(n *api.Net) { n.Inputs[0].Role = 9 }, func(n *api.Net) { n.Sees[0].Term.Args[0].Name = "z" },
		func(n *api.Net) { _ = append(n.Gates, api.Gate{Index: 7}) }, func(n *api.Net) { _ = append(n.Gates[2].In, 7) }, func(n *api.Net) { _ = append(n.Next, 7) }, func(n *api.Net) { _ = append(n.Legal, 7) }, func(n *api.Net) { _ = append(n.Initial, 7) }, func(n *api.Net) { _ = append(n.Goals, api.Output{Gate: 7}) }, func(n *api.Net) { _ = append(n.Sees, api.Output{Gate: 7}) }, func(n *api.Net) { _ = append(n.Inputs, api.Input{Role: 7}) },
	} {
		copied := sample.RoomyNet(n)
		shown := sample.ShowNet(copied)
		spoil(&copied)
		if sample.ShowNet(copied) == shown || sample.ShowNet(n) != before {
			t.Error(i)
		}
	}
	x := sample.RoomyGraph(api.Graph{States: [][]api.Term{sample.Terms("a")}, Depths: []int{0}, Steps: []api.Step{{Joint: sample.Terms("f(b)")}}})
	before = sample.ShowGraph(x)
	for i, spoil := range []func(x *api.Graph){
		func(x *api.Graph) { x.States[0][0].Name = "z" }, func(x *api.Graph) { x.Steps[0].Joint[0].Args[0].Name = "z" }, func(x *api.Graph) { x.Steps[0].To = 7 }, func(x *api.Graph) { x.Depths[0] = 7 },
		func(x *api.Graph) { _ = append(x.States, sample.Terms("b")) }, func(x *api.Graph) { _ = append(x.Depths, 7) }, func(x *api.Graph) { _ = append(x.Steps, api.Step{To: 7}) }, func(x *api.Graph) { _ = append(x.States[0], sample.Terms("b")...) },
	} {
		copied := sample.RoomyGraph(x)
		shown := sample.ShowGraph(copied)
		spoil(&copied)
		if sample.ShowGraph(copied) == shown || sample.ShowGraph(x) != before {
			t.Error(i)
		}
	}
}

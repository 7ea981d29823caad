package ternary_test

import (
	"math/rand/v2"
	"slices"
	"testing"

	"gameplayer/api"
	"gameplayer/compile"
	"gameplayer/evaluate"
	"gameplayer/logic"
	"gameplayer/network"
	"gameplayer/reach"
	"gameplayer/sample"
	"gameplayer/simplify"
	"gameplayer/term"
	"gameplayer/ternary"
)

// valuesOf are the values of the gates, for which there must be no error.
func valuesOf(t *testing.T, n api.Net, bases, inputs []int) []int {
	t.Helper()
	values, e := ternary.Values(n, bases, inputs)
	if e != api.OK || len(values) != len(n.Gates) {
		t.Fatalf("%s, %v, %v: %v, %d", network.Text(n), bases, inputs, values, e)
	}
	return values
}

// some makes values, one of many of which is a number that is none.
func some(r *rand.Rand, count int) []int {
	var l []int
	for range count {
		l = append(l, r.IntN(3))
		if r.IntN(8) == 0 {
			l[len(l)-1] = odd[r.IntN(len(odd))]
		}
	}
	return l
}

// refine gives some of the unknown values others.
func refine(r *rand.Rand, l []int, all bool) []int {
	l = slices.Clone(l)
	for i, value := range l {
		if value != 0 && value != 1 && (all || r.IntN(2) == 0) {
			l[i] = r.IntN(2)
		}
	}
	return l
}

// known are values of which nothing is unknown.
func known(values []bool) []int {
	var l []int
	for _, v := range values {
		l = append(l, map[bool]int{true: 1}[v])
	}
	return l
}

// trues are the positions of what is true.
func trues(values []int) []int {
	var l []int
	for i, v := range values {
		if v == 1 {
			l = append(l, i)
		}
	}
	return l
}

// P25.2: random networks against the definition
func TestRandomNetworks(t *testing.T) {
	r := rand.New(rand.NewPCG(25, 1))
	var counts [3]int
	for range 3000 {
		n := sample.AnyNet(r.IntN)
		for range 4 {
			bases, inputs := some(r, len(n.Bases)), some(r, len(n.Inputs))
			got, want := valuesOf(t, n, bases, inputs), sample.Ternary(n, bases, inputs)
			if !slices.Equal(got, want) {
				t.Fatalf("%s, %v, %v: %v, want %v", network.Text(n), bases, inputs, got, want)
			}
			for _, v := range got {
				counts[v]++
			}
		}
	}
	if slices.Min(counts[:]) < 20000 {
		t.Error(counts)
	}
}

// P25.3, P25.5: where nothing is unknown, the values are those of evaluate, and Known gives those of the bases.
func TestNothingUnknown(t *testing.T) {
	r := rand.New(rand.NewPCG(25, 2))
	for range 2000 {
		n := sample.AnyNet(r.IntN)
		state, inputs := sample.Subset(r.IntN, len(n.Bases)), sample.Subset(r.IntN, len(n.Inputs))
		moves := make([]int, len(n.Inputs))
		for _, i := range inputs {
			moves[i] = 1
		}
		bases := ternary.Known(n, state)
		if len(bases) != len(n.Bases) || !slices.Equal(trues(bases), state) || slices.Contains(bases, 2) {
			t.Fatalf("%s, %v: %v", network.Text(n), state, bases)
		}
		values, e := evaluate.Values(n, state, inputs)
		got, want := valuesOf(t, n, bases, moves), known(sample.Values(n, state, inputs))
		if e != api.OK || !slices.Equal(got, want) || !slices.Equal(known(values), want) {
			t.Fatalf("%s, %v, %v: %v, want %v", network.Text(n), state, inputs, got, want)
		}
	}
}

// P25.4, P25.6: with values that refine others, those of the gates do, too, up to where nothing is unknown.
func TestRefined(t *testing.T) {
	r := rand.New(rand.NewPCG(25, 3))
	stay, become := 0, 0
	for range 3000 {
		n := sample.AnyNet(r.IntN)
		bases, inputs := some(r, len(n.Bases)), some(r, len(n.Inputs))
		before := valuesOf(t, n, bases, inputs)
		for i := range 4 {
			finer, moves := refine(r, bases, i == 3), refine(r, inputs, i == 3)
			if !ternary.Refines(finer, bases) || !ternary.Refines(moves, inputs) {
				t.Fatalf("%v of %v, %v of %v", finer, bases, moves, inputs)
			}
			after := valuesOf(t, n, finer, moves)
			if !ternary.Refines(after, before) {
				t.Fatalf("%s: %v, %v: %v; %v, %v: %v", network.Text(n), bases, inputs, before, finer, moves, after)
			}
			if i == 3 && !slices.Equal(after, known(sample.Values(n, trues(finer), trues(moves)))) {
				t.Fatalf("%s: %v, %v: %v", network.Text(n), finer, moves, after)
			}
			for gate, v := range before {
				if v < 2 {
					stay++
				} else if after[gate] < 2 {
					become++
				}
			}
			bases, inputs, before = finer, moves, after
		}
	}
	if stay < 20000 || become < 5000 {
		t.Error(stay, become)
	}
}

// P25.6: with all moves unknown, the networks of games say of the states that follow only what holds in all of them.
func TestGames(t *testing.T) {
	r := rand.New(rand.NewPCG(25, 4))
	list := [][]api.Rule{sample.Rules(sample.Lamp), sample.Rules(sample.Coin), sample.Rules(sample.Noughts)}
	for range 15 {
		list = append(list, sample.Any(r.IntN), sample.AnyWalk(r.IntN), sample.AnyDuel(r.IntN, true))
	}
	certain, open := 0, 0
	for _, l := range list {
		g, e := logic.New(l)
		compiled, also := compile.Net(l)
		if e != api.OK || also != api.OK {
			t.Fatal(e, also)
		}
		x, _ := reach.Graph(g, 2)
		for _, n := range []api.Net{compiled, simplify.Net(compiled)} {
			for _, s := range x.Steps {
				values := valuesOf(t, n, ternary.Known(n, stateOf(n, x.States[s.From])), slices.Repeat([]int{2}, len(n.Inputs)))
				next := ternary.Known(n, stateOf(n, x.States[s.To]))
				for base, gate := range n.Next {
					switch values[gate] {
					case 2:
						open++
					case next[base]:
						certain++
					default:
						t.Fatalf("%v, %v: base %d is %d", x.States[s.From], s.Joint, base, next[base])
					}
				}
			}
		}
	}
	if certain < 2000 || open < 2000 {
		t.Error(certain, open)
	}
}

// stateOf are the bases of a state.
func stateOf(n api.Net, facts []api.Term) []int {
	var l []int
	for _, f := range facts {
		l = append(l, term.Find(n.Bases, f))
	}
	return l
}

package sample_test

import (
	"math/rand/v2"
	"testing"

	"gameplayer/api"
	"gameplayer/check"
	"gameplayer/relax"
	"gameplayer/sample"
)

// The games are valid, and random ones are not all alike.
func TestGames(t *testing.T) {
	for _, text := range []string{sample.Lamp, sample.Noughts, sample.Coin} {
		if atoms, e := relax.Atoms(sample.Rules(text)); len(atoms) == 0 || e != api.OK {
			t.Errorf("%s: %d", text, e)
		}
	}
	r := rand.New(rand.NewPCG(1, 2))
	roles, chance, hidden := map[int]int{}, 0, 0
	for range 200 {
		for _, l := range [][]api.Rule{sample.Any(r.IntN), sample.AnyWalk(r.IntN)} {
			if atoms, e := relax.Atoms(l); len(atoms) == 0 || e != api.OK {
				t.Fatal(l, e)
			}
			roles[len(check.Roles(l))]++
			chance += min(check.Chance(l)+1, 1)
			hidden += map[bool]int{true: 1}[check.Hidden(l)]
		}
	}
	if roles[1] < 50 || roles[2] < 50 || roles[3] < 20 || chance < 50 || hidden < 50 {
		t.Error(roles, chance, hidden)
	}
}

// A change of a copy that shares no memory is not seen in the original, and one of a part is.
func TestSpoil(t *testing.T) {
	l := sample.Terms("a, f(g(b),c)")
	before := sample.Show(l)
	sample.Spoil(sample.Roomy(l))
	if sample.Show(l) != before {
		t.Error(sample.Show(l))
	}
	sample.Spoil(l[1].Args)
	if sample.Show(l) == before {
		t.Error(sample.Show(l))
	}
	rules := sample.Rules("p(f(X)) if q(f(X)).")
	text := sample.ShowRules(rules)
	sample.SpoilRules(sample.RoomyRules(rules))
	if sample.ShowRules(rules) != text {
		t.Error(sample.ShowRules(rules))
	}
	sample.Spoil(rules[0].Body[0].Atom.Args)
	if sample.ShowRules(rules) == text {
		t.Error(text)
	}
}

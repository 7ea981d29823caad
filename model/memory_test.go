package model_test

import (
	"fmt"
	"math"
	"slices"
	"testing"

	"gameplayer/api"
	"gameplayer/model"
)

// roomy copies numbers into a list with spare capacity.
func roomy(l []int) []int { return append(make([]int, 0, len(l)+3), l...) }

// roomyGround copies a ground description so that its lists have spare capacity.
func roomyGround(g api.Ground) api.Ground {
	x := api.Ground{Atoms: make([]api.Term, 0, len(g.Atoms)+2), Rules: make([]api.GroundRule, 0, len(g.Rules)+2)}
	for _, t := range g.Atoms {
		x.Atoms = append(x.Atoms, api.Term{Name: t.Name, Args: append(make([]api.Term, 0, len(t.Args)+2), t.Args...)})
	}
	for _, r := range g.Rules {
		x.Rules = append(x.Rules, api.GroundRule{Head: r.Head, Pos: roomy(r.Pos), Neg: roomy(r.Neg)})
	}
	return x
}

// everything shows a ground description with what its lists have beyond their ends.
func everything(g api.Ground) string {
	text := fmt.Sprint(len(g.Atoms), len(g.Rules))
	for _, t := range g.Atoms[:cap(g.Atoms)] {
		text += fmt.Sprint(t.Name, len(t.Args), t.Args[:cap(t.Args)])
	}
	for _, r := range g.Rules[:cap(g.Rules)] {
		text += fmt.Sprint(r.Head, len(r.Pos), r.Pos[:cap(r.Pos)], len(r.Neg), r.Neg[:cap(r.Neg)])
	}
	return text
}

// R5: arguments are not modified, nor is their spare capacity; results share no memory with them.
func TestMemory(t *testing.T) {
	for _, rules := range []string{"0: 1:0 2:1/5 3:2,4 4:0", "0:/1 1:/0", ""} {
		g := roomyGround(description("a, b, c, d, p(a), p(b)", rules))
		facts := roomy([]int{0, 2})
		before := everything(g) + fmt.Sprint(facts[:cap(facts)])
		results := [][]int{}
		for range 2 {
			strata, _ := model.Strata(g)
			ranks, _ := model.Ranks(g, facts)
			atoms, _ := model.Model(g, facts)
			derivation, _ := model.Derivation(g, facts, 3)
			model.Holds(g, facts, 1)
			model.Why(g, facts, 1)
			for _, l := range [][]int{strata, ranks, atoms, derivation} {
				results = append(results, slices.Clone(l))
				for i := range l[:cap(l)] {
					l[:cap(l)][i] = -9
				}
			}
		}
		for i := range 4 {
			if !slices.Equal(results[i], results[i+4]) {
				t.Errorf("%s: %v, then %v", rules, results[i], results[i+4])
			}
		}
		if everything(g)+fmt.Sprint(facts[:cap(facts)]) != before {
			t.Errorf("%s: arguments have changed", rules)
		}
	}
}

// atoms are so many atoms, each of a relation of its own or all of the same one.
func atoms(n int, own bool) []api.Term {
	var l []api.Term
	for i := range n {
		if own {
			l = append(l, api.Term{Name: fmt.Sprintf("a%03d", i)})
		} else {
			l = append(l, api.Term{Name: "a", Args: []api.Term{{Name: fmt.Sprint(i)}}})
		}
	}
	return l
}

// upTo are the numbers below n.
func upTo(n int) []int {
	var l []int
	for i := range n {
		l = append(l, i)
	}
	return l
}

// R1, P14.1, P14.2, P14.5: as many strata, rounds and rules of a derivation as there may be
func TestLongChains(t *testing.T) {
	for _, own := range []bool{true, false} {
		g := api.Ground{Atoms: atoms(512, own)}
		for i := 1; i < 512; i++ {
			g.Rules = append(g.Rules, api.GroundRule{Head: i, Pos: upTo(i)})
		}
		ranks, e := model.Ranks(g, []int{0})
		if !slices.Equal(ranks, upTo(512)) || e != api.OK {
			t.Error(ranks, e)
		}
		if l, ok := model.Derivation(g, []int{0}, 511); !slices.Equal(l, upTo(511)) || !ok {
			t.Error(l, ok)
		}
		if i, ok := model.Why(g, []int{0}, 511); i != 510 || !ok {
			t.Error(i, ok)
		}
	}
	g := api.Ground{Atoms: atoms(512, true), Rules: []api.GroundRule{{}}}
	odd := []int{0}
	for i := 1; i < 512; i++ {
		g.Rules = append(g.Rules, api.GroundRule{Head: i, Neg: []int{i - 1}})
		if i%2 == 0 {
			odd = append(odd, i)
		}
	}
	strata, e := model.Strata(g)
	if !slices.Equal(strata, upTo(512)) || e != api.OK {
		t.Error(strata, e)
	}
	if l, e := model.Model(g, nil); !slices.Equal(l, odd) || e != api.OK {
		t.Error(l, e)
	}
	g.Rules[0].Neg = []int{511}
	all(t, g, nil, []int{0, 511}, api.ErrCycle)
}

// R1: as many ground rules, with as many atoms, as there may be
func TestManyLongRules(t *testing.T) {
	for _, own := range []bool{true, false} {
		g := api.Ground{Atoms: atoms(512, own)}
		for i := range 510 {
			g.Rules = append(g.Rules, api.GroundRule{Head: i, Pos: []int{(i + 1) % 510}})
		}
		for i := range 1538 {
			r := api.GroundRule{Head: 511, Pos: append(upTo(510-i%500), 510)}
			if own {
				r.Neg = append(r.Neg, upTo(i/500+1)...)
			}
			g.Rules = append(g.Rules, r)
		}
		slices.SortFunc(g.Rules[510:], func(a, b api.GroundRule) int {
			if c := slices.Compare(a.Pos, b.Pos); c != 0 {
				return c
			}
			return slices.Compare(a.Neg, b.Neg)
		})
		if !own { // without Neg there are equal rules
			g.Rules = slices.CompactFunc(g.Rules, func(a, b api.GroundRule) bool { return a.Head == b.Head && slices.Equal(a.Pos, b.Pos) })
		}
		ranks, e := model.Ranks(g, []int{0})
		if e != api.OK || len(ranks) != 512 || ranks[1] != 509 || ranks[509] != 1 || ranks[510] != -1 || ranks[511] != -1 {
			t.Error(ranks, e)
		}
	}
}

// R1: any atoms and numbers
func TestAnyValues(t *testing.T) {
	deep := api.Term{Name: "a"}
	for range 1 << 16 {
		deep = api.Term{Name: "f", Args: []api.Term{deep}}
	}
	long := make([]int, 1<<20)
	for _, g := range []api.Ground{
		{Atoms: []api.Term{deep}},
		{Atoms: []api.Term{{}, {Name: "X"}}},
		{Atoms: slices.Repeat([]api.Term{{Name: "p"}}, 1<<20)},
		{Rules: slices.Repeat([]api.GroundRule{{Head: -1, Pos: long}}, 1<<12)},
		{Atoms: []api.Term{{Name: "p"}}, Rules: []api.GroundRule{{Head: 0, Pos: long}}},
		{Atoms: []api.Term{{Name: "p"}}, Rules: []api.GroundRule{{Head: 0, Neg: long}}},
		{Atoms: []api.Term{{Name: "p"}}, Rules: []api.GroundRule{{Head: math.MaxInt}}},
		{Atoms: []api.Term{{Name: "p"}}, Rules: []api.GroundRule{{Head: 0, Pos: []int{math.MinInt}}}},
	} {
		if l, e := model.Strata(g); len(l) != 0 || e != api.ErrInvalid {
			t.Error(l, e)
		}
		all(t, g, nil, []int{math.MinInt, -1, 0, 1, math.MaxInt}, api.ErrInvalid)
	}
	all(t, description("a", ""), long, []int{0}, api.ErrInvalid)
}

// R4: empty lists that are nil or not
func TestNothing(t *testing.T) {
	for _, none := range [][]int{nil, {}} {
		for _, g := range []api.Ground{{}, {Atoms: []api.Term{}, Rules: []api.GroundRule{}}} {
			if l, e := model.Strata(g); len(l) != 0 || e != api.OK {
				t.Error(l, e)
			}
			all(t, g, none, nil, api.OK)
			failing(t, g, none, 0, api.ErrRange)
		}
		g := description("a, b", "")
		g.Rules = []api.GroundRule{{Head: 1, Pos: none, Neg: none}}
		g.Atoms[0].Args = []api.Term{}
		if l, e := model.Ranks(g, none); !slices.Equal(l, []int{-1, 1}) || e != api.OK {
			t.Error(l, e)
		}
	}
}

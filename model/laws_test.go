package model_test

import (
	"cmp"
	"fmt"
	"math/rand/v2"
	"slices"
	"testing"

	"gameplayer/api"
	"gameplayer/ground"
	"gameplayer/model"
	"gameplayer/term"
)

// anyGround makes a valid ground description; the atoms of a relation differ in their arguments.
func anyGround(r *rand.Rand, atoms, rules, negations int) api.Ground {
	var l []api.Term
	relations, ordered := 1+r.IntN(8), r.IntN(4) > 0
	for i := range atoms - r.IntN(atoms/2) - r.IntN(atoms/2+1) {
		name := string(rune('a' + r.IntN(relations)))
		l = append(l, api.Term{Name: name, Args: []api.Term{{Name: fmt.Sprint(i)}}})
	}
	g := api.Ground{Atoms: term.Sort(l)}
	if len(l) == 0 {
		return g
	}
	some := func(count int) []int {
		var list []int
		for range count {
			list = append(list, r.IntN(len(l)))
		}
		slices.Sort(list)
		return slices.Compact(list)
	}
	for range rules - r.IntN(rules+1)/2 {
		x := api.GroundRule{Head: r.IntN(len(l)), Pos: some((r.IntN(12) + 5) / 6)}
		if r.IntN(100) < negations {
			x.Neg = some(1 + r.IntN(2))
		}
		if ordered { // no cycles
			x.Neg = slices.DeleteFunc(x.Neg, func(i int) bool { return g.Atoms[i].Name >= g.Atoms[x.Head].Name })
			x.Pos = slices.DeleteFunc(x.Pos, func(i int) bool { return g.Atoms[i].Name > g.Atoms[x.Head].Name })
		}
		g.Rules = append(g.Rules, x)
	}
	compare := func(a, b api.GroundRule) int {
		return cmp.Or(cmp.Compare(a.Head, b.Head), slices.Compare(a.Pos, b.Pos), slices.Compare(a.Neg, b.Neg))
	}
	slices.SortFunc(g.Rules, compare)
	g.Rules = slices.CompactFunc(g.Rules, func(a, b api.GroundRule) bool { return compare(a, b) == 0 })
	return g
}

// anyFacts makes a list of numbers of atoms.
func anyFacts(r *rand.Rand, g api.Ground) []int {
	var facts []int
	few := 1 + r.IntN(5)
	for i := range g.Atoms {
		if r.IntN(few) == 1 {
			facts = append(facts, i)
		}
	}
	return facts
}

// raised are the least strata, which are found by raising those that are too low; there are none if one exceeds the number of atoms.
func raised(g api.Ground) ([]int, bool) {
	level := map[string]int{}
	for again := true; again; {
		again = false
		raise := func(head, i, more int) {
			from, to := g.Atoms[head].Name, g.Atoms[i].Name
			if level[from] < level[to]+more {
				level[from], again = level[to]+more, true
			}
		}
		for _, x := range g.Rules {
			for _, i := range x.Pos {
				raise(x.Head, i, 0)
			}
			for _, i := range x.Neg {
				raise(x.Head, i, 1)
			}
			if level[g.Atoms[x.Head].Name] > len(g.Atoms) {
				return nil, false
			}
		}
	}
	list := []int{}
	for _, t := range g.Atoms {
		list = append(list, level[t.Name])
	}
	return list, true
}

// simpleRanks gives ranks round by round, each from a copy of those of the round before.
func simpleRanks(g api.Ground, facts, strata []int) []int {
	ranks := make([]int, len(g.Atoms))
	for i := range ranks {
		ranks[i] = -1
		if slices.Contains(facts, i) {
			ranks[i] = 0
		}
	}
	for stratum := range len(g.Atoms) + 1 {
		for round, changed := 1, true; changed; round++ {
			changed = false
			before := slices.Clone(ranks)
			ranked := func(i int) bool { return before[i] >= 0 }
			unranked := func(i int) bool { return before[i] < 0 }
			for _, x := range g.Rules {
				if strata[x.Head] == stratum && unranked(x.Head) && !slices.ContainsFunc(x.Pos, unranked) && !slices.ContainsFunc(x.Neg, ranked) {
					ranks[x.Head], changed = round, true
				}
			}
		}
	}
	return ranks
}

// P14.1, P14.2, P14.3: comparison with raised strata and with copied ranks
func TestAgainstSimpleWays(t *testing.T) {
	r := rand.New(rand.NewPCG(14, 1))
	counts := map[bool]int{}
	high, late := 0, 0
	for range 20000 {
		g := anyGround(r, 12, 20, 30)
		if !ground.Valid(g) {
			t.Fatal(g)
		}
		want, stratified := raised(g)
		got, e := model.Strata(g)
		if !slices.Equal(got, want) || (e == api.OK) != stratified || e != api.OK && e != api.ErrCycle {
			t.Fatalf("Strata(%v) is %v, %d, want %v", g, got, e, want)
		}
		counts[stratified]++
		facts := anyFacts(r, g)
		if !stratified {
			all(t, g, facts, facts, api.ErrCycle)
			continue
		}
		ranks := simpleRanks(g, facts, want)
		if got, e := model.Ranks(g, facts); !slices.Equal(got, ranks) || e != api.OK {
			t.Fatalf("Ranks(%v, %v) is %v, %d, want %v", g, facts, got, e, ranks)
		}
		var hold []int
		for i, rank := range ranks {
			if rank >= 0 {
				hold = append(hold, i)
			}
			if is, e := model.Holds(g, facts, i); is != (rank >= 0) || e != api.OK {
				t.Fatalf("Holds(%v, %v, %d) is %v, %d", g, facts, i, is, e)
			}
			late += min(max(rank, 0)/3, 1)
			high += min(want[i]/2, 1)
		}
		if got, e := model.Model(g, facts); !slices.Equal(got, hold) || e != api.OK {
			t.Fatalf("Model(%v, %v) is %v, %d, want %v", g, facts, got, e, hold)
		}
	}
	if counts[true] < 5000 || counts[false] < 2000 || high < 2000 || late < 1000 {
		t.Error(counts, high, late)
	}
}

// simpleWhy looks for the rules that satisfy the definition, and takes the first.
func simpleWhy(g api.Ground, ranks, strata []int, atom int) (int, bool) {
	if ranks[atom] < 1 {
		return 0, false
	}
	for k, x := range g.Rules {
		fires := x.Head == atom
		for _, i := range x.Pos {
			fires = fires && ranks[i] >= 0 && (strata[i] < strata[atom] || ranks[i] < ranks[atom])
		}
		for _, i := range x.Neg {
			fires = fires && ranks[i] < 0
		}
		if fires {
			return k, true
		}
	}
	panic("no rule")
}

// simpleDerivation joins the derivations of the atoms of a body.
func simpleDerivation(g api.Ground, ranks, strata []int, atom int) []int {
	k, ok := simpleWhy(g, ranks, strata, atom)
	if !ok {
		return nil
	}
	var list []int
	for _, i := range g.Rules[k].Pos {
		for _, rule := range simpleDerivation(g, ranks, strata, i) {
			if !slices.Contains(list, rule) {
				list = append(list, rule)
			}
		}
	}
	return append(list, k)
}

// anyStratified makes a ground description that has strata.
func anyStratified(r *rand.Rand, atoms, rules, negations int) api.Ground {
	for {
		g := anyGround(r, atoms, rules, negations)
		if _, ok := raised(g); ok {
			return g
		}
	}
}

// P14.4, P14.5, P14.7: comparison with the definitions, and what is said of derivations
func TestDerivations(t *testing.T) {
	r := rand.New(rand.NewPCG(14, 4))
	long, several := 0, 0
	for range 10000 {
		g := anyStratified(r, 12, 30, 40)
		facts := anyFacts(r, g)
		strata, _ := raised(g)
		ranks := simpleRanks(g, facts, strata)
		for i := range g.Atoms {
			want, wantOK := simpleWhy(g, ranks, strata, i)
			if got, ok := model.Why(g, facts, i); got != want || ok != wantOK {
				t.Fatalf("Why(%v, %v, %d) is %d, %v, want %d", g, facts, i, got, ok, want)
			}
			got, ok := model.Derivation(g, facts, i)
			if list := simpleDerivation(g, ranks, strata, i); !slices.Equal(got, list) || ok != (ranks[i] >= 0) {
				t.Fatalf("Derivation(%v, %v, %d) is %v, %v, want %v", g, facts, i, got, ok, list)
			}
			if !derived(g, facts, ranks, got, i) {
				t.Fatalf("Derivation(%v, %v, %d) is %v", g, facts, i, got)
			}
			long += min(len(got)/4, 1)
			if ok && want > 0 && g.Rules[want-1].Head == i {
				several++
			}
		}
	}
	if long < 1000 || several < 1000 {
		t.Error(long, several)
	}
}

// derived reports whether a derivation of an atom is as P14.7 says.
func derived(g api.Ground, facts, ranks, list []int, atom int) bool {
	known := map[int]bool{}
	for _, i := range facts {
		known[i] = true
	}
	for k, rule := range list {
		x := g.Rules[rule]
		for _, i := range x.Pos {
			if !known[i] {
				return false
			}
		}
		for _, i := range x.Neg {
			if ranks[i] >= 0 {
				return false
			}
		}
		known[x.Head] = true
		if k == len(list)-1 && x.Head != atom {
			return false
		}
	}
	return true
}

// justified is the least set that contains the facts and, for each rule whose Neg are not in a set, the head if it contains Pos.
func justified(g api.Ground, facts []int, set map[int]bool) map[int]bool {
	least := map[int]bool{}
	for _, i := range facts {
		least[i] = true
	}
	for again := true; again; {
		again = false
		for _, x := range g.Rules {
			blocked := slices.ContainsFunc(x.Neg, func(i int) bool { return set[i] })
			missing := slices.ContainsFunc(x.Pos, func(i int) bool { return !least[i] })
			if !blocked && !missing && !least[x.Head] {
				least[x.Head], again = true, true
			}
		}
	}
	return least
}

// P14.6: of all sets, only the model contains what is derived if just its own atoms hold.
func TestModelIsTheOnlyOne(t *testing.T) {
	r := rand.New(rand.NewPCG(14, 6))
	negated := 0
	for range 1500 {
		g := anyStratified(r, 8, 14, 60)
		facts := anyFacts(r, g)
		want, e := model.Model(g, facts)
		if e != api.OK {
			t.Fatal(e)
		}
		for bits := range 1 << len(g.Atoms) {
			set := map[int]bool{}
			var list []int
			for i := range g.Atoms {
				if bits>>i&1 == 1 {
					set[i] = true
					list = append(list, i)
				}
			}
			stable := fmt.Sprint(justified(g, facts, set)) == fmt.Sprint(set)
			if stable != slices.Equal(list, want) {
				t.Fatalf("Model(%v, %v) is %v, and %v is %v", g, facts, want, list, stable)
			}
		}
		if slices.ContainsFunc(g.Rules, func(x api.GroundRule) bool { return len(x.Neg) > 0 }) {
			negated++
		}
	}
	if negated < 700 {
		t.Error(negated)
	}
}

// with are facts and one more.
func with(facts []int, i int) []int {
	l := append(slices.Clone(facts), i)
	slices.Sort(l)
	return slices.Compact(l)
}

// P14.8
func TestMoreFacts(t *testing.T) {
	r := rand.New(rand.NewPCG(14, 8))
	same, grown := 0, 0
	for k := range 6000 {
		g := anyStratified(r, 12, 25, 40*(k%2))
		facts := anyFacts(r, g)
		before, _ := model.Model(g, facts)
		for i := range g.Atoms {
			after, e := model.Model(g, with(facts, i))
			if e != api.OK {
				t.Fatal(e)
			}
			if slices.Contains(before, i) {
				if !slices.Equal(after, before) {
					t.Fatalf("Model(%v, %v) is %v, and with %d %v", g, facts, before, i, after)
				}
				same++
			}
			if k%2 == 0 {
				for _, x := range before {
					if !slices.Contains(after, x) {
						t.Fatalf("Model(%v, %v) is %v, and with %d %v", g, facts, before, i, after)
					}
				}
				grown += len(after) - len(before)
			}
		}
	}
	if same < 5000 || grown < 5000 {
		t.Error(same, grown)
	}
}

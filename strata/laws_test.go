package strata_test

import (
	"math/rand/v2"
	"slices"
	"strings"
	"testing"

	"gameplayer/api"
	"gameplayer/strata"
)

// randomRules makes rules over a few relations, not all of them valid.
func randomRules(r *rand.Rand, count, names int) []api.Rule {
	choice := strings.Fields("a b a10 a2 c distinct d")[:names]
	var l []api.Rule
	for range count {
		var body []string
		for range r.IntN(3) {
			body = append(body, strings.Repeat("-", r.IntN(2))+choice[r.IntN(names)])
		}
		l = append(l, rule(choice[r.IntN(names)], body...))
	}
	return l
}

// edge is a pair of relations with a negation or without one.
type edge struct {
	from, to string
	not      bool
}

// graph has the relations of rules, ascending, and their edges.
func graph(l []api.Rule) ([]string, map[edge]bool) {
	edges := map[edge]bool{}
	var names []string
	for _, r := range l {
		names = append(names, r.Head.Name)
		for _, x := range r.Body {
			names = append(names, x.Atom.Name)
			if r.Head.Name != "distinct" && x.Atom.Name != "distinct" {
				edges[edge{r.Head.Name, x.Atom.Name, x.Not}] = true
			}
		}
	}
	names = slices.DeleteFunc(names, func(s string) bool { return s == "distinct" })
	slices.Sort(names)
	return slices.Compact(names), edges
}

// raised are the least levels, which are found by raising levels that are too low; there are none if a level exceeds the number of relations.
func raised(l []api.Rule) ([]api.Level, bool) {
	names, edges := graph(l)
	level := map[string]int{}
	for again := true; again; {
		again = false
		for e := range edges {
			low := level[e.to]
			if e.not {
				low++
			}
			if level[e.from] < low {
				level[e.from], again = low, true
			}
			if low > len(names) {
				return nil, false
			}
		}
	}
	var list []api.Level
	for _, s := range names {
		list = append(list, api.Level{Name: s, Level: level[s]})
	}
	return list, true
}

// firstCycle tries all lists of different relations in their order.
func firstCycle(l []api.Rule) []string {
	names, edges := graph(l)
	joined := func(list []string, i int) bool {
		p, q := list[i], list[(i+1)%len(list)]
		return edges[edge{p, q, true}] || i > 0 && edges[edge{p, q, false}]
	}
	var extend func(list []string, n int) []string
	extend = func(list []string, n int) []string {
		if len(list) == n {
			if joined(list, n-1) {
				return list
			}
			return nil
		}
		for _, s := range names {
			if longer := append(slices.Clone(list), s); !slices.Contains(list, s) && (len(list) == 0 || joined(longer, len(list)-1)) {
				if found := extend(longer, n); found != nil {
					return found
				}
			}
		}
		return nil
	}
	for n := 1; n <= len(names); n++ {
		if found := extend(nil, n); found != nil {
			return found
		}
	}
	return nil
}

// P10.1, P10.3, P10.6: comparison with raised levels and with a search through all lists
func TestAgainstSimpleWays(t *testing.T) {
	r := rand.New(rand.NewPCG(10, 1))
	counts := map[bool]int{}
	for i := range 20000 {
		l := randomRules(r, r.IntN(12), 2+i%6)
		want, stratified := raised(l)
		got, e := strata.Levels(l)
		if !slices.Equal(got, want) || (e == api.OK) != stratified || e != api.OK && e != api.ErrCycle {
			t.Fatalf("Levels(%v) is %v, %d, not %v", l, got, e, want)
		}
		cycle := strata.Cycle(l)
		if !slices.Equal(cycle, firstCycle(l)) || (len(cycle) == 0) != stratified {
			t.Fatalf("Cycle(%v) is %v, not %v", l, cycle, firstCycle(l))
		}
		counts[stratified]++
	}
	if counts[true] < 2000 || counts[false] < 2000 {
		t.Error("too few cases of a kind:", counts)
	}
}

// P10.6
func TestCyclesAreConnected(t *testing.T) {
	r := rand.New(rand.NewPCG(10, 2))
	for range 3000 {
		l := randomRules(r, 1+r.IntN(12), 7)
		cycle := strata.Cycle(l)
		if _, e := strata.Levels(l); (e == api.ErrCycle) != (len(cycle) > 0) {
			t.Fatalf("Cycle(%v) is %v, but Levels returns %d", l, cycle, e)
		}
		_, edges := graph(l)
		for i, p := range cycle {
			q := cycle[(i+1)%len(cycle)]
			if slices.Contains(cycle[:i], p) || !edges[edge{p, q, true}] && (i == 0 || !edges[edge{p, q, false}]) {
				t.Fatalf("Cycle(%v) is %v", l, cycle)
			}
		}
	}
}

// allLevels are all lists that give the names levels below n.
func allLevels(names []string, n int) [][]api.Level {
	lists := [][]api.Level{nil}
	for _, s := range names {
		var longer [][]api.Level
		for _, list := range lists {
			for k := range n {
				longer = append(longer, append(slices.Clone(list), api.Level{Name: s, Level: k}))
			}
		}
		lists = longer
	}
	return lists
}

// P10.4, P10.5
func TestLevelsAreLeast(t *testing.T) {
	r := rand.New(rand.NewPCG(10, 3))
	for range 300 {
		l := randomRules(r, r.IntN(8), 2+r.IntN(3))
		least, e := strata.Levels(l)
		if strata.Valid(l, least) != (e == api.OK) && len(l) > 0 {
			t.Fatalf("Levels(%v) is %v", l, least)
		}
		names, edges := graph(l)
		for _, list := range allLevels(names, 5) {
			right := true
			for x := range edges {
				from, to := strata.Of(list, x.from), strata.Of(list, x.to)
				right = right && from >= to && (from > to || !x.not)
			}
			valid := strata.Valid(l, list)
			if valid != right {
				t.Fatalf("Valid(%v, %v) is %v", l, list, valid)
			}
			for i, x := range list {
				if valid && (e != api.OK || x.Level < least[i].Level) {
					t.Fatalf("Valid(%v, %v), but Levels is %v", l, list, least)
				}
			}
		}
	}
}

// P10.7: where a rule or a literal is removed
func TestRemoval(t *testing.T) {
	r := rand.New(rand.NewPCG(10, 4))
	for range 3000 {
		l := randomRules(r, 1+r.IntN(8), 7)
		whole, e := strata.Levels(l)
		if e != api.OK {
			continue
		}
		i := r.IntN(len(l))
		part := slices.Delete(slices.Clone(l), i, i+1)
		if r.IntN(2) == 0 && len(l[i].Body) > 0 {
			part = slices.Insert(part, i, api.Rule{Head: l[i].Head, Body: l[i].Body[1:]})
		}
		levels, e := strata.Levels(part)
		if e != api.OK {
			t.Fatalf("%v has strata, %v has none", l, part)
		}
		for _, x := range levels {
			if x.Level > strata.Of(whole, x.Name) {
				t.Fatalf("%v: %v, but %v: %v", l, whole, part, levels)
			}
		}
	}
}

// P10.8
func TestEveryRuleIsInOneList(t *testing.T) {
	r := rand.New(rand.NewPCG(10, 5))
	for range 3000 {
		l := randomRules(r, r.IntN(9), 7)
		order, e := strata.Order(l)
		levels, f := strata.Levels(l)
		greatest := -1
		for _, x := range levels {
			greatest = max(greatest, x.Level)
		}
		if e != f || len(order) != greatest+1 {
			t.Fatalf("Order(%v) is %v, %d", l, order, e)
		}
		if e != api.OK {
			continue
		}
		place := map[int]int{}
		count := 0
		for n, list := range order {
			for k, i := range list {
				if k > 0 && list[k-1] >= i {
					t.Fatalf("Order(%v) is %v", l, order)
				}
				place[i] = n
				count++
			}
		}
		checkOrder(t, l, place, count)
	}
}

// checkOrder checks that the places of the rules, of which there are so many, permit the literals.
func checkOrder(t *testing.T, l []api.Rule, place map[int]int, count int) {
	for i, r := range l {
		if _, known := place[i]; known == (r.Head.Name == "distinct") {
			t.Fatalf("%v: rule %d", l, i)
		}
		if r.Head.Name == "distinct" {
			count++
			continue
		}
		for _, x := range r.Body {
			for k, s := range l {
				if s.Head.Name == x.Atom.Name && s.Head.Name != "distinct" && (place[k] > place[i] || x.Not && place[k] == place[i]) {
					t.Fatalf("%v: rule %d comes after %d", l, k, i)
				}
			}
		}
	}
	if count != len(l) {
		t.Fatalf("%v: %d rules", l, count)
	}
}

package depend_test

import (
	"math/rand/v2"
	"slices"
	"strings"
	"testing"

	"gameplayer/api"
	"gameplayer/depend"
)

// pool are the relations of the random descriptions.
const pool = "a a10 a2 b c d distinct e f g true"

// randomRules makes rules over the first names of the pool.
func randomRules(r *rand.Rand, count, names int) []api.Rule {
	choice := words(pool)[:names]
	var l []api.Rule
	for range count {
		var body []string
		for range r.IntN(3) {
			body = append(body, strings.Repeat("-", r.IntN(2))+choice[r.IntN(names)])
		}
		l = append(l, rule(choice[r.IntN(names)], body...))
	}
	return l
}

// randomCase is a list of edges, some of them repeated, with names of which some have no edges.
func randomCase(r *rand.Rand) ([]api.Edge, []string) {
	choice := words(pool)
	n := 1 + r.IntN(len(choice))
	var l []api.Edge
	for range r.IntN(2 * n) {
		l = append(l, api.Edge{From: choice[r.IntN(n)], To: choice[r.IntN(n)], Not: r.IntN(2) == 0})
	}
	var names []string
	for range r.IntN(2 * n) {
		names = append(names, choice[r.IntN(n)])
	}
	return l, names
}

// closure says which names depend on which, for edges whose ends are both permitted: Warshall's way.
func closure(l []api.Edge, permitted []string) map[[2]string]bool {
	reach := map[[2]string]bool{}
	for _, e := range l {
		reach[[2]string{e.From, e.To}] = slices.Contains(permitted, e.From) && slices.Contains(permitted, e.To)
	}
	for _, k := range permitted {
		for _, i := range permitted {
			for _, j := range permitted {
				if reach[[2]string{i, k}] && reach[[2]string{k, j}] {
					reach[[2]string{i, j}] = true
				}
			}
		}
	}
	return reach
}

// listing lists the groups of different, ascending names as the definition says.
func listing(reach map[[2]string]bool, names []string) [][]string {
	group := func(p string) []string {
		var l []string
		for _, q := range names {
			if p == q || reach[[2]string{p, q}] && reach[[2]string{q, p}] {
				l = append(l, q)
			}
		}
		return l
	}
	var listed []string
	var list [][]string
	for len(listed) < len(names) {
		next := slices.IndexFunc(names, func(p string) bool {
			return !slices.Contains(listed, p) && !slices.ContainsFunc(names, func(q string) bool {
				return reach[[2]string{p, q}] && !slices.Contains(listed, q) && !slices.Contains(group(p), q)
			})
		})
		list = append(list, group(names[next]))
		listed = append(listed, group(names[next])...)
	}
	return list
}

// distinctNames are names, ascending, each once.
func distinctNames(l []string) []string { return slices.Compact(slices.Sorted(slices.Values(l))) }

// P9.3, P9.4: comparison with Warshall's way and with the definition
func TestReachAndGroupsAgreeWithClosure(t *testing.T) {
	r := rand.New(rand.NewPCG(9, 1))
	for range 3000 {
		l, names := randomCase(r)
		all := closure(l, words(pool))
		for _, p := range words(pool) {
			var want []string
			for _, q := range words(pool) {
				if all[[2]string{p, q}] {
					want = append(want, q)
				}
			}
			if got := depend.Reach(l, p); !slices.Equal(got, want) || depend.Recursive(l, p) != slices.Contains(want, p) {
				t.Fatalf("Reach(%v, %s) is %q, not %q", l, p, got, want)
			}
		}
		different := distinctNames(names)
		want := listing(closure(l, different), different)
		if got := depend.Groups(l, names); !equalGroups(got, want) {
			t.Fatalf("Groups(%v, %q) is %q, not %q", l, names, got, want)
		}
	}
}

// P9.5
func TestTransitivity(t *testing.T) {
	r := rand.New(rand.NewPCG(9, 2))
	for range 2000 {
		l, _ := randomCase(r)
		for _, p := range words(pool) {
			var want []string
			for _, e := range l {
				if e.From == p {
					want = append(append(want, e.To), depend.Reach(l, e.To)...)
				}
			}
			got := depend.Reach(l, p)
			if !slices.Equal(got, distinctNames(want)) {
				t.Fatalf("Reach(%v, %s) is %q, not %q", l, p, got, want)
			}
			for _, q := range got {
				for _, s := range depend.Reach(l, q) {
					if !slices.Contains(got, s) {
						t.Fatalf("%v: %s reaches %s, which reaches %s", l, p, q, s)
					}
				}
			}
		}
	}
}

// P9.6
func TestEveryNameIsInOneGroup(t *testing.T) {
	r := rand.New(rand.NewPCG(9, 3))
	for range 2000 {
		l, names := randomCase(r)
		place := map[string]int{}
		list := depend.Groups(l, names)
		var inside []api.Edge
		for _, e := range l {
			if slices.Contains(names, e.From) && slices.Contains(names, e.To) {
				inside = append(inside, e)
			}
		}
		for i, g := range list {
			for _, p := range g {
				place[p] = i
				for _, q := range g {
					if p != q && !slices.Contains(depend.Reach(inside, p), q) {
						t.Fatalf("Groups(%v, %q) is %q, but %s does not reach %s", l, names, list, p, q)
					}
				}
			}
		}
		if all := slices.Concat(list...); !slices.Equal(slices.Sorted(slices.Values(all)), distinctNames(names)) {
			t.Fatalf("Groups(%v, %q) is %q", l, names, list)
		}
		for _, e := range inside {
			if place[e.From] < place[e.To] {
				t.Fatalf("Groups(%v, %q) is %q, against %v", l, names, list, e)
			}
		}
	}
}

// lessEdge says which edge is the lower one: the texts of edges with the same ends differ in their last byte only.
func lessEdge(a, b api.Edge) int {
	text := func(e api.Edge) string {
		if e.Not {
			return e.From + "\x00" + e.To + "\x001"
		}
		return e.From + "\x00" + e.To + "\x000"
	}
	return strings.Compare(text(a), text(b))
}

// P9.7
func TestDescriptionsJoined(t *testing.T) {
	r := rand.New(rand.NewPCG(9, 4))
	for range 2000 {
		a, b := randomRules(r, r.IntN(6), 11), randomRules(r, r.IntN(6), 3+r.IntN(8))
		both := slices.Concat(a, b)
		relations, heads, joined := depend.Relations(both), depend.Heads(both), depend.Edges(both)
		if want := distinctNames(slices.Concat(depend.Relations(a), depend.Relations(b))); !slices.Equal(relations, want) {
			t.Fatalf("%v: Relations is %q, not %q", both, relations, want)
		}
		if want := distinctNames(slices.Concat(depend.Heads(a), depend.Heads(b))); !slices.Equal(heads, want) {
			t.Fatalf("%v: Heads is %q, not %q", both, heads, want)
		}
		want := slices.Compact(slices.SortedFunc(slices.Values(slices.Concat(depend.Edges(a), depend.Edges(b))), lessEdge))
		if !slices.Equal(joined, want) {
			t.Fatalf("%v: Edges is %v, not %v", both, joined, want)
		}
		for _, e := range joined {
			if !slices.Contains(heads, e.From) || !slices.Contains(relations, e.To) || !slices.Contains(relations, e.From) || e.To == "distinct" {
				t.Fatalf("%v: edge %v", both, e)
			}
		}
	}
}

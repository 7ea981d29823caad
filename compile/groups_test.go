package compile_test

import (
	"fmt"
	"math/rand/v2"
	"slices"
	"testing"

	"gameplayer/api"
	"gameplayer/compile"
	"gameplayer/ground"
	"gameplayer/sample"
)

// example is the ground description of the examples of the chapter.
func example() api.Ground {
	return sample.Ground("p, q, terminal, next(s), true(s), does(x,a), legal(x,a)", "p if q. q if not true(s). q if p. terminal if p. next(s) if true(s) and does(x,a). legal(x,a) if true(s).")
}

// P21.1
func TestGroups(t *testing.T) {
	if got := fmt.Sprint(compile.Groups(example())); got != "[[4] [0 1] [2] [5] [3] [6]]" {
		t.Error(got)
	}
	for _, c := range []struct{ atoms, rules, want string }{
		{"", "", "[]"},
		{"a", "", "[[0]]"},
		{"a, b, c", "", "[[0] [1] [2]]"},
		{"a", "a. a if a.", "[[0]]"},
		{"a, b, c", "a if b. b if c.", "[[2] [1] [0]]"},
		{"a, b, c", "c if b. b if a.", "[[0] [1] [2]]"},
		{"a, b, c", "a if not c. c if not a.", "[[0 2] [1]]"},
		{"a, b, c", "a if b and not c. c if b and not a.", "[[1] [0 2]]"},
		{"a, b, c", "a if not a. b if not c.", "[[0] [2] [1]]"},
		{"a, b, c, d, e", "a if d.", "[[1] [2] [3] [0] [4]]"},
		{"a, b, c, d, e", "b if e. c if not d and a.", "[[0] [3] [2] [4] [1]]"},
		{"a, b, c, d", "a if c. c if a. b if d. d if b. a if d.", "[[1 3] [0 2]]"},
		{"a, b, c, d", "a if c. c if a. b if d. d if b. b if a.", "[[0 2] [1 3]]"},
		{"a, b, c, d", "a if c. c if a. b if d. d if b.", "[[0 2] [1 3]]"},
		{"a, b, c, d, e, f", "b if d. d if f. f if b. f if e. c if f. a if c and not e.", "[[4] [1 3 5] [2] [0]]"},
		{"a, b, c, d, e, f", "a if b and c and d and e. b if a. e if a. d if a. c if f.", "[[5] [2] [0 1 3 4]]"},
		{"a, b, c, d, e", "a if b. b if c. c if d. d if e. e if b.", "[[1 2 3 4] [0]]"},
		{"init(a), true(a), next(a), true(a,b), does(x,a)", "next(a) if true(a) and does(x,a).", "[[0] [2] [3] [1] [4]]"},
		{"true(a), true(b), does(x,a)", "true(a) if true(b). does(x,a) if true(a). true(b) if does(x,a).", "[[0 1 2]]"},
	} {
		if got := fmt.Sprint(compile.Groups(sample.Ground(c.atoms, c.rules))); got != c.want {
			t.Errorf("%s; %s: %s, want %s", c.atoms, c.rules, got, c.want)
		}
	}
}

// spoilt are ground descriptions that are not valid.
func spoilt() []api.Ground {
	var list []api.Ground
	for _, change := range []func(g *api.Ground){
		func(g *api.Ground) { slices.Reverse(g.Atoms) },
		func(g *api.Ground) { g.Atoms[1] = g.Atoms[0] },
		func(g *api.Ground) { g.Atoms[6].Args[0].Name = "X" },
		func(g *api.Ground) { g.Atoms = append([]api.Term{{Name: "10"}}, g.Atoms...) },
		func(g *api.Ground) { g.Atoms[1].Name = "distinct" },
		func(g *api.Ground) { slices.Reverse(g.Rules) },
		func(g *api.Ground) { g.Rules = append(g.Rules, g.Rules[5]) },
		func(g *api.Ground) { g.Rules[5].Head = 7 },
		func(g *api.Ground) { g.Rules[0].Head = -1 },
		func(g *api.Ground) { g.Rules[5].Pos = []int{7} },
		func(g *api.Ground) { g.Rules[5].Neg = []int{-1} },
		func(g *api.Ground) { g.Rules[4].Pos = []int{5, 4} },
		func(g *api.Ground) { g.Rules[4].Neg = []int{5, 5} },
		func(g *api.Ground) { g.Atoms = g.Atoms[:6] },
		func(g *api.Ground) { g.Rules = append(g.Rules, make([]api.GroundRule, 1<<16)...) },
		func(g *api.Ground) { g.Atoms = make([]api.Term, 1<<16) },
	} {
		g := example()
		change(&g)
		list = append(list, g)
	}
	return list
}

// P21.1: there are no groups if the ground description is not valid.
func TestGroupsNotValid(t *testing.T) {
	for i, g := range spoilt() {
		if ground.Valid(g) {
			t.Errorf("%d is valid", i)
		}
		if l := compile.Groups(g); len(l) > 0 {
			t.Errorf("%d: %v", i, l)
		}
	}
}

// anyDependencies makes a ground description, most likely without strata.
func anyDependencies(r *rand.Rand, atoms int) api.Ground {
	var g api.Ground
	for i := range atoms {
		g.Atoms = append(g.Atoms, api.Term{Name: fmt.Sprintf("a%03d", i)})
	}
	for range r.IntN(2*atoms + 1) {
		x := api.GroundRule{Head: r.IntN(atoms)}
		for range r.IntN(3) {
			x.Pos = append(x.Pos, r.IntN(atoms))
		}
		if r.IntN(3) == 0 {
			x.Neg = append(x.Neg, r.IntN(atoms))
		}
		g.Rules = append(g.Rules, x)
	}
	return sample.SortGround(g)
}

// dependent are the atoms on which an atom depends: those of its rules, and those of their rules, and so on.
func dependent(g api.Ground, atom int) map[int]bool {
	met := map[int]bool{}
	for open := []int{atom}; len(open) > 0; open = open[1:] {
		for _, r := range g.Rules {
			for _, i := range slices.Concat(r.Pos, r.Neg) {
				if r.Head == open[0] && !met[i] {
					met[i] = true
					open = append(open, i)
				}
			}
		}
	}
	return met
}

// chosen are the groups in their order, by the definition.
func chosen(g api.Ground) [][]int {
	below := []map[int]bool{}
	for i := range g.Atoms {
		below = append(below, dependent(g, i))
	}
	var list [][]int
	listed := map[int]bool{}
	for len(listed) < len(g.Atoms) {
		for i := range g.Atoms {
			group, ready := []int{}, !listed[i]
			for k := range g.Atoms {
				if k == i || below[i][k] && below[k][i] {
					group = append(group, k)
				} else if below[i][k] && !listed[k] {
					ready = false
				}
			}
			if ready {
				for _, k := range group {
					listed[k] = true
				}
				list = append(list, group)
				break
			}
		}
	}
	return list
}

// P21.1, P21.6: comparison with the definition
func TestGroupsAgainstDefinition(t *testing.T) {
	r := rand.New(rand.NewPCG(21, 1))
	large, several := 0, 0
	for range 5000 {
		g := anyDependencies(r, 1+r.IntN(12))
		groups := compile.Groups(g)
		if got, want := fmt.Sprint(groups), fmt.Sprint(chosen(g)); got != want {
			t.Fatalf("%v: %s, want %s", g, got, want)
		}
		checkGroups(t, g, groups)
		cycles := slices.DeleteFunc(groups, func(l []int) bool { return len(l) < 2 })
		several += min(len(cycles)/2, 1)
		large += min(len(slices.Concat(cycles...))/4, 1)
	}
	if several < 100 || large < 500 {
		t.Error(several, large)
	}
}

// checkGroups checks that every atom is in one group, and that no rule depends on a later one.
func checkGroups(t *testing.T, g api.Ground, groups [][]int) {
	t.Helper()
	place := map[int]int{}
	for n, group := range groups {
		for _, i := range group {
			if _, met := place[i]; met {
				t.Fatalf("%v: %d is in two groups of %v", g, i, groups)
			}
			place[i] = n
		}
	}
	for _, r := range g.Rules {
		for _, i := range slices.Concat(r.Pos, r.Neg) {
			if place[i] > place[r.Head] {
				t.Fatalf("%v: %d depends on %d in %v", g, r.Head, i, groups)
			}
		}
	}
	if len(place) != len(g.Atoms) {
		t.Fatalf("%v: not all atoms are in %v", g, groups)
	}
}

package compile_test

import (
	"fmt"
	"math/rand/v2"
	"slices"
	"testing"

	"gameplayer/api"
	"gameplayer/compile"
	"gameplayer/ground"
	"gameplayer/model"
	"gameplayer/sample"
	"gameplayer/term"
)

// pool has atoms with all sorts of meanings for the roles x and y, and some that look like those.
const pool = `p, q, r, terminal, u(a), u(b), u(2), v(a), v(b), w(1), w(2),
true(a), true(b), true(2), true(10), true(f(a)), true, true(a,b), init(a), init(b), init(2), init(f(a)), init(c), init(a,b), next(a), next(b), next(2), next(10), next(f(a)), next(c), next,
does(x,a), does(x,2), does(x,10), does(y,a), does(y,f(b)), does(z,a), does(x), does(x,a,b), legal(x,a), legal(x,2), legal(x,10), legal(y,a), legal(y,f(b)), legal(y,c), legal(z,a), legal(x),
goal(x,0), goal(x,100), goal(x,101), goal(x,9), goal(y,50), goal(y,7), goal(y,a), goal(z,5), goal(x), sees(x,a), sees(x,2), sees(x,10), sees(y,f(b)), sees(y,a), sees(z,a), sees(x), terminal(x)`

// anyGround makes a ground description that can be compiled, if it has strata.
func anyGround(r *rand.Rand) api.Ground {
	few := 1 + r.IntN(4)
	g := api.Ground{Atoms: term.Sort(slices.DeleteFunc(sample.Terms(pool), func(api.Term) bool { return r.IntN(few) > 0 }))}
	given := func(t api.Term) bool {
		return t.Name == "true" && len(t.Args) == 1 || t.Name == "does" && len(t.Args) == 2
	}
	order := r.Perm(1 << 8) // of relations: negations lead to lower ones, and most other dependencies do
	place := func(t api.Term) int {
		if given(t) {
			return -1
		}
		return order[int(t.Name[0])+len(t.Name)]
	}
	count := len(g.Atoms)
	for i, t := range g.Atoms {
		if given(t) {
			continue
		}
		for range r.IntN(4) {
			x := api.GroundRule{Head: i}
			for range r.IntN(4) {
				k := r.IntN(count)
				if place(g.Atoms[k]) <= place(t) || r.IntN(30) == 0 {
					x.Pos = append(x.Pos, k)
				}
			}
			if k := r.IntN(count); place(g.Atoms[k]) < place(t) && r.IntN(2) == 0 {
				x.Neg = append(x.Neg, k)
			}
			g.Rules = append(g.Rules, x)
		}
	}
	return sample.SortGround(g)
}

// find is the number of an atom, or -1.
func find(g api.Ground, relation string, args ...api.Term) int {
	return ground.Find(g, api.Term{Name: relation, Args: args})
}

// agrees checks that the outputs of a network are what is in the model.
func agrees(t *testing.T, g api.Ground, net api.Net, state, inputs []int) {
	t.Helper()
	var facts []int
	for _, i := range state {
		facts = append(facts, find(g, "true", net.Bases[i]))
	}
	for _, i := range inputs {
		facts = append(facts, find(g, "does", net.Roles[net.Inputs[i].Role], net.Inputs[i].Move))
	}
	slices.Sort(facts)
	atoms, e := model.Model(g, facts)
	if e != api.OK {
		t.Fatal(e)
	}
	var want []bool
	add := func(relation string, args ...api.Term) {
		want = append(want, slices.Contains(atoms, find(g, relation, args...)))
	}
	for _, f := range net.Bases {
		add("next", f)
	}
	for _, x := range net.Inputs {
		add("legal", net.Roles[x.Role], x.Move)
	}
	for _, o := range net.Goals {
		add("goal", net.Roles[o.Role], api.Term{Name: fmt.Sprint(o.Value)})
	}
	for _, o := range net.Sees {
		add("sees", net.Roles[o.Role], o.Term)
	}
	add("terminal")
	if got := sample.Results(net, state, inputs); !slices.Equal(got, want) {
		t.Fatalf("%.999s, %v, %v: %v, want %v", fmt.Sprint(g), state, inputs, got, want)
	}
}

// listed are the lists of a network, by the definition.
func listed(g api.Ground, roles []api.Term, hidden bool) string {
	net := api.Net{Roles: roles, Hidden: hidden}
	first, _ := model.Model(g, nil)
	for _, t := range g.Atoms {
		if t.Name == "true" && len(t.Args) == 1 {
			if slices.Contains(first, find(g, "init", t.Args[0])) {
				net.Initial = append(net.Initial, len(net.Bases))
			}
			net.Bases = append(net.Bases, t.Args[0])
		}
	}
	for role, r := range roles {
		for _, t := range g.Atoms {
			if len(t.Args) != 2 || term.Text(t.Args[0]) != r.Name {
				continue
			}
			switch t.Name {
			case "does":
				net.Inputs = append(net.Inputs, api.Input{Role: role, Move: t.Args[1]})
			case "sees":
				net.Sees = append(net.Sees, api.Output{Role: role, Term: t.Args[1]})
			case "goal":
				for n := range api.MaxGoal + 1 {
					if fmt.Sprint(n) == term.Text(t.Args[1]) {
						net.Goals = append(net.Goals, api.Output{Role: role, Value: n})
					}
				}
			}
		}
	}
	return lists(net)
}

// P21.3: random ground descriptions against their models
func TestAgainstModels(t *testing.T) {
	r := rand.New(rand.NewPCG(21, 3))
	recursive, outputs, values := 0, 0, map[bool]int{}
	for n := range 3000 {
		g := anyGround(r)
		roles := sample.Terms([]string{"x", "y, x", "x, y", "chance, y", "x, a, y, b"}[r.IntN(5)])
		if _, e := model.Strata(g); e != api.OK {
			if _, got := compile.Ground(g, roles, true); got != e {
				t.Fatal(got, e)
			}
			continue
		}
		net := compiled(t, g, roles, n%2 == 0)
		if got, want := lists(net), listed(g, roles, n%2 == 0); got != want {
			t.Fatalf("%v: %s, want %s", g, got, want)
		}
		groups := compile.Groups(g)
		checkGroups(t, g, groups)
		recursive += min(len(g.Atoms)-len(groups), 1)
		for range 10 {
			state, inputs := sample.Subset(r.IntN, len(net.Bases)), sample.Subset(r.IntN, len(net.Inputs))
			agrees(t, g, net, state, inputs)
			for _, v := range sample.Results(net, state, inputs) {
				outputs++
				values[v]++
			}
		}
	}
	if recursive < 150 || outputs < 50000 || values[true] < outputs/10 || values[false] < outputs/10 {
		t.Error(recursive, outputs, values)
	}
}

// P21.3: rings, one of which may have as many gates as there may be with the rule that is added
func TestRings(t *testing.T) {
	r := rand.New(rand.NewPCG(21, 4))
	for _, g := range []api.Ground{ring(64, 123, 42), ring(80, 0, 80), ring(2, 2, 3), ring(9, 27, 5)} {
		net := compiled(t, g, x, true)
		agrees(t, g, net, nil, nil)
		bases := len(net.Bases)
		all := make([]int, bases)
		for i := range all {
			all[i] = i
		}
		for _, head := range []int{bases, len(g.Atoms) - 1} { // percepts that are derived from the base 0 alone
			started := sample.SortGround(api.Ground{Atoms: g.Atoms, Rules: append(slices.Clone(g.Rules), api.GroundRule{Head: head, Pos: []int{0}})})
			net := compiled(t, started, x, true)
			agrees(t, started, net, all, nil)
			agrees(t, started, net, all[1:], nil)
			for range 5 {
				agrees(t, started, net, sample.Subset(r.IntN, bases), nil)
			}
		}
	}
}

// P21.3: chains of rules within one group, in both directions and in any order, need as many rounds as there are atoms.
func TestChains(t *testing.T) {
	r := rand.New(rand.NewPCG(21, 5))
	for n := range 60 {
		count := 2 + r.IntN(20)
		g := api.Ground{Atoms: sample.Terms("true(a)")}
		for i := range count {
			g.Atoms = append(g.Atoms, api.Term{Name: "sees", Args: []api.Term{{Name: "x"}, {Name: fmt.Sprint(i)}}})
		}
		way := r.Perm(count)
		slices.SortFunc(way, func(a, b int) int { return (n%3 - 1) * (a - b) }) // up, down, or as it is
		for i, at := range way {
			g.Rules = append(g.Rules, api.GroundRule{Head: 1 + at, Pos: []int{1 + way[(i+1)%count]}})
		}
		g.Rules = append(g.Rules, api.GroundRule{Head: 1 + way[count-1], Pos: []int{0}})
		g = sample.SortGround(g)
		net := compiled(t, g, x, true)
		agrees(t, g, net, nil, nil)
		agrees(t, g, net, []int{0}, nil)
		if got := sample.Results(net, []int{0}, nil); !slices.Equal(got[1:count+1], slices.Repeat([]bool{true}, count)) {
			t.Fatal(g, got)
		}
	}
}

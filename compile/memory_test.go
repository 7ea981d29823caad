package compile_test

import (
	"fmt"
	"testing"

	"gameplayer/api"
	"gameplayer/compile"
	"gameplayer/network"
	"gameplayer/sample"
)

// nested is a ground description with terms that have arguments.
func nested() api.Ground {
	return sample.Ground("true(f(g(a))), true(b), init(f(g(a))), next(f(g(a))), does(x,f(a)), legal(x,f(a)), sees(x,f(g(b))), goal(x,5), p, q, terminal",
		"init(f(g(a))). next(f(g(a))) if does(x,f(a)) and not true(b). legal(x,f(a)) if true(b). sees(x,f(g(b))) if not p. goal(x,5) if p. p if q. q if p. p if true(b). terminal if q and not true(f(g(a))).")
}

// R5: arguments are not modified, nor is their spare capacity; results share no memory with them, and their lists none with one another.
func TestMemory(t *testing.T) {
	g, roles, l := sample.RoomyGround(nested()), sample.Roomy(x), sample.RoomyRules(sample.Rules(sample.Coin))
	shown := func() string { return sample.ShowGround(g) + sample.Show(roles) + sample.ShowRules(l) }
	before := shown()
	var texts []string
	for range 2 {
		net, e := compile.Ground(g, roles, true)
		other, also := compile.Net(l)
		size, also2 := compile.Gates(g, roles, true)
		groups := compile.Groups(g)
		if e != api.OK || also != api.OK || also2 != api.OK {
			t.Fatal(e, also, also2)
		}
		texts = append(texts, network.Text(net)+network.Text(other)+fmt.Sprint(size, groups))
		for _, n := range []api.Net{net, other} {
			if len(n.Gates) < 10 || sample.SharesNet(n) {
				t.Error("lists share memory")
			}
			sample.SpoilNet(n)
		}
		for i, group := range groups {
			rest := fmt.Sprint(groups[i+1:])
			for k := range group[:cap(group)] {
				group[:cap(group)][k] = -9
			}
			if fmt.Sprint(groups[i+1:]) != rest {
				t.Error("groups share memory")
			}
		}
	}
	if shown() != before {
		t.Error("arguments have changed")
	}
	if texts[0] != texts[1] {
		t.Errorf("%s, then %s", texts[0], texts[1])
	}
}

// R4: empty lists may be nil or not.
func TestEmptyLists(t *testing.T) {
	g := example()
	for i, r := range g.Rules {
		g.Rules[i].Pos, g.Rules[i].Neg = append([]int{}, r.Pos...), append([]int{}, r.Neg...)
	}
	for i, a := range g.Atoms {
		g.Atoms[i].Args = append([]api.Term{}, a.Args...)
	}
	roles := []api.Term{{Name: "x", Args: []api.Term{}}}
	if got, want := network.Text(compiled(t, g, roles, true)), network.Text(compiled(t, example(), x, true)); got != want {
		t.Errorf("%s, want %s", got, want)
	}
	if n, e := compile.Gates(g, roles, true); n != 34 || e != api.OK || len(compile.Groups(g)) != 6 {
		t.Error(n, e)
	}
	for _, g := range []api.Ground{{}, {Atoms: []api.Term{}, Rules: []api.GroundRule{}}} {
		if net := compiled(t, g, x, false); lists(net) != "x / / / [] / / / false" || len(compile.Groups(g)) > 0 {
			t.Error(net)
		}
	}
}

// largest makes a ground description with as many atoms and rules as there may be. Each rule has a literal for most of the atoms that it may depend on.
func largest(may func(head, atom int) bool, negated func(rule, atom int) bool) api.Ground {
	var g api.Ground
	for i := range api.MaxAtoms - 1 {
		g.Atoms = append(g.Atoms, api.Term{Name: fmt.Sprintf("a%03d", i)})
	}
	g.Atoms = append(g.Atoms, api.Term{Name: "terminal"})
	for i := range api.MaxGround {
		r := api.GroundRule{Head: i / 4}
		for k := range api.MaxAtoms {
			if !may(r.Head, k) || k%7 == i%4 {
				continue
			}
			if negated(i, k) {
				r.Neg = append(r.Neg, k)
			} else {
				r.Pos = append(r.Pos, k)
			}
		}
		g.Rules = append(g.Rules, r)
	}
	return sample.SortGround(g)
}

// R1: as many atoms and rules with as many literals as there may be
func TestLarge(t *testing.T) {
	before := func(head, atom int) bool { return atom < head }
	g := largest(before, func(rule, atom int) bool { return (rule+atom)%5 == 0 })
	if groups := compile.Groups(g); len(groups) != api.MaxAtoms || groups[511][0] != 511 {
		t.Error(len(groups))
	}
	agrees(t, g, compiled(t, g, x, false), nil, nil)
	other := func(head, atom int) bool { return atom != head }
	g = largest(other, func(rule, atom int) bool { return false })
	if groups := compile.Groups(g); len(groups) != 1 || len(groups[0]) != api.MaxAtoms {
		t.Error(len(groups))
	}
	fails(t, g, x, api.ErrTooLarge)
}

// R1: any values
func TestAnyValues(t *testing.T) {
	far := api.Term{Name: "a"}
	for range 1 << 16 {
		far = api.Term{Name: "f", Args: []api.Term{far}}
	}
	odd := []api.Term{{}, {Name: "X"}, {Name: "true"}, {Name: "true", Args: []api.Term{{}}}, {Name: "does", Args: []api.Term{far, far}}, {Name: "goal", Args: make([]api.Term, 1<<16)}, far}
	numbers := []int{0, 1, -1, 1<<63 - 1, -1 << 63}
	for _, a := range odd {
		for _, i := range numbers {
			g := api.Ground{Atoms: []api.Term{a}, Rules: []api.GroundRule{{Head: i, Pos: numbers, Neg: []int{i}}}}
			for _, roles := range [][]api.Term{x, {a}, {a, a}, nil, make([]api.Term, 1<<16)} {
				compile.Groups(g)
				fails(t, g, roles, api.ErrInvalid)
			}
			fails(t, example(), []api.Term{a, {Name: ""}}, api.ErrInvalid)
			if net, e := compile.Net([]api.Rule{{Head: a, Body: []api.Literal{{Atom: a}}}}); e == api.OK || len(net.Gates) > 0 {
				t.Error(e)
			}
		}
	}
	if net, e := compile.Net(nil); e == api.OK || len(net.Roles) > 0 {
		t.Error(e)
	}
	if _, e := compile.Net(make([]api.Rule, 1<<16)); e == api.OK {
		t.Error(e)
	}
}

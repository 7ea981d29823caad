package logic_test

import (
	"slices"
	"testing"

	"gameplayer/api"
	"gameplayer/logic"
	"gameplayer/printer"
	"gameplayer/sample"
)

// deep is a game with functions in all its terms.
const deep = `role(x). role(y). init(p(f(a))). init(p(f(b))).
legal(x,g(X,X)) if true(p(X)). legal(y,h(k)). legal(y,h(l)). legal(y,i) if not true(p(f(a))).
next(p(X)) if does(x,g(X,X)). next(q(X,X)) if does(y,h(X)). next(p(f(X))) if does(y,h(X)).
sees(x,s(X,f(X))) if does(y,h(X)). sees(x,s(k,f(k))). sees(y,s(X,f(X))) if does(y,h(X)).
goal(x,50) if true(q(X,X)). terminal if true(q(l,l)).
`

// ask shows everything that a game returns for a state and a joint move, and spoils it.
func ask(g *logic.Game, state, joint []api.Term) string {
	rules := g.Rules()
	text, _ := printer.Rules(rules)
	sample.SpoilRules(rules)
	show := func(l []api.Term, e api.Errno) {
		text += printer.Terms(l) + "; "
		if e != api.OK {
			text += "an error; "
		}
		sample.Spoil(l)
	}
	show(g.Roles(), api.OK)
	show(g.Initial(), api.OK)
	show(g.Legal(state, 0))
	show(g.Legal(state, 1))
	show(g.Next(state, joint))
	show(g.Sees(state, joint, 0))
	show(g.Sees(state, joint, 1))
	joints, _ := g.Joints(state)
	for i, j := range joints {
		show(j, api.OK) // what is spoilt already is shown if it is shared
		joints[i] = nil
	}
	if ends, e := g.Terminal(state); ends || e != api.OK {
		text += "terminal"
	}
	return text
}

// P17.1, R5: a game keeps no reference to its description; arguments are not modified, nor is their spare capacity; results share no memory with them, with the game or with one another.
func TestMemory(t *testing.T) {
	l := sample.RoomyRules(sample.Rules(deep))
	want, _ := printer.Rules(l)
	want += "x, y; p(f(a)), p(f(b)); g(f(a),f(a)), g(f(b),f(b)); h(k), h(l); p(f(b)), p(f(k)), q(k,k); s(k,f(k)); s(k,f(k)); " +
		"g(f(a),f(a)), h(k); g(f(a),f(a)), h(l); g(f(b),f(b)), h(k); g(f(b),f(b)), h(l); "
	rules := sample.ShowRules(l)
	g, e := logic.New(l)
	if e != api.OK || sample.ShowRules(l) != rules {
		t.Fatal("the description has changed", e)
	}
	sample.SpoilRules(l)
	state, joint := sample.Roomy(terms("p(f(a)), p(f(b))")), sample.Roomy(terms("g(f(b),f(b)), h(k)"))
	before := sample.Show(state) + sample.Show(joint)
	for range 3 {
		if got := ask(g, state, joint); got != want {
			t.Errorf("%s, want %s", got, want)
		}
		if !g.Valid(state) || sample.Show(state)+sample.Show(joint) != before {
			t.Fatal("arguments have changed")
		}
	}
	other, e := logic.New(sample.Rules(deep))
	if e != api.OK || ask(other, state, joint) != want {
		t.Error("another game of the same description differs")
	}
}

// R6: a game does not change, whatever is asked.
func TestOrderOfCalls(t *testing.T) {
	g := game(deep)
	state, joint := terms("p(f(a)), p(f(b))"), terms("g(f(b),f(b)), h(k)")
	want := ask(g, state, joint)
	for _, c := range []struct{ state, joint string }{
		{"", ""}, {"p(f(a))", "g(f(a),f(a)), h(l)"}, {"p(f(b))", "g(f(b),f(b)), i"}, {"q(l,l)", "g(f(b),f(b)), h(k)"}, {"z", "a"}, {"p(f(b)), p(f(a))", "g(f(b),f(b)), h(k)"}, {"p(f(a)), p(f(b))", "g(f(c),f(c)), h(k)"},
	} {
		ask(g, terms(c.state), terms(c.joint))
		if got := ask(g, state, joint); got != want {
			t.Errorf("after %s; %s: %s, want %s", c.state, c.joint, got, want)
		}
	}
}

// R1: any values
func TestAnyValues(t *testing.T) {
	far := api.Term{Name: "a"}
	for range 1 << 16 {
		far = api.Term{Name: "f", Args: []api.Term{far}}
	}
	wide := api.Term{Name: "f", Args: slices.Repeat([]api.Term{{Name: "a"}}, 1<<16)}
	odd := []api.Term{{}, {Name: "X"}, {Name: "s"}, {Name: "s", Args: []api.Term{{}}}, {Name: "007"}, {Name: "if"}, {Name: "role", Args: terms("x")}, far, wide}
	lamp := game(sample.Lamp)
	for _, x := range odd {
		for _, y := range odd {
			logic.New([]api.Rule{{Head: x, Body: []api.Literal{{Atom: y}, {Not: true, Atom: x}}}})
			for _, state := range [][]api.Term{nil, lamp.Initial(), {x}, {x, y}} {
				ask(lamp, state, []api.Term{x, y})
			}
		}
	}
	many := make([]api.Term, 1<<20)
	if _, e := lamp.Next(many, many); e != api.ErrState {
		t.Error(e)
	}
	if _, e := lamp.Next(lamp.Initial(), many); e != api.ErrMove {
		t.Error(e)
	}
	if _, e := logic.New(make([]api.Rule, 1<<20)); e != api.ErrTooLong {
		t.Error(e)
	}
}

// R4: empty lists may be nil or not.
func TestEmptyLists(t *testing.T) {
	g := game("role(x). legal(x,a). next(b) if true(b). sees(x,c).")
	for _, state := range [][]api.Term{nil, {}} {
		for _, joint := range [][]api.Term{nil, {}} {
			if next, e := g.Next(state, joint); len(next) > 0 || e != api.ErrMove {
				t.Error(next, e)
			}
		}
		joint := []api.Term{{Name: "a", Args: []api.Term{}}}
		next, e := g.Next(state, joint)
		sees, f := g.Sees(state, joint, 0)
		if len(next) > 0 || e != api.OK || printer.Terms(sees) != "c" || f != api.OK || !g.Valid(state) {
			t.Error(next, e, sees, f)
		}
	}
	l := []api.Rule{{Head: api.Term{Name: "role", Args: []api.Term{{Name: "x", Args: []api.Term{}}}}, Body: []api.Literal{}}}
	g, e := logic.New(l)
	if e != api.OK || printer.Terms(g.Roles()) != "x" {
		t.Error(e)
	}
}

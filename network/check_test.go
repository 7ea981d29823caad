package network_test

import (
	"slices"
	"testing"

	"gameplayer/api"
	"gameplayer/network"
	"gameplayer/sample"
)

var terms = sample.Terms

// nest makes a term of a depth.
func nest(depth int) api.Term {
	t := api.Term{Name: "a"}
	for range depth - 1 {
		t = api.Term{Name: "f", Args: []api.Term{t}}
	}
	return t
}

// tryAll changes the network mixed in several ways and checks the error.
func tryAll(t *testing.T, want api.Errno, changes ...func(n *api.Net)) {
	t.Helper()
	for i, change := range changes {
		n := sample.Net(mixed)
		change(&n)
		if e := network.Check(n); e != want {
			t.Errorf("%d: Check is %d, want %d", i, e, want)
		}
	}
}

// P20.1: what is permitted
func TestCheck(t *testing.T) {
	for _, text := range []string{mixed, least, sample.Switch} {
		if e := network.Check(sample.Net(text)); e != api.OK {
			t.Errorf("%s: %d", text, e)
		}
	}
	tryAll(t, api.OK,
		func(n *api.Net) { n.Gates[6].In = []int{5} },
		func(n *api.Net) { n.Gates[8] = api.Gate{Kind: api.GateOr, In: []int{0, 1, 2, 3, 4, 5, 6, 7}} },
		func(n *api.Net) { n.Gates[7].In = []int{6} },
		func(n *api.Net) { n.Gates[4].Index, n.Gates[5].Index = 2, 2 },
		func(n *api.Net) { n.Initial = nil },
		func(n *api.Net) { n.Initial = []int{0, 1} },
		func(n *api.Net) { n.Goals, n.Sees = nil, nil },
		func(n *api.Net) { n.Goals[2].Value = 100 },
		func(n *api.Net) { n.Goals[0].Value, n.Goals[1].Value = 1, 2 },
		func(n *api.Net) { n.Sees[2].Term = nest(4) },
		func(n *api.Net) { n.Bases[1], n.Inputs[1].Move = nest(4), nest(4) },
		func(n *api.Net) { n.Hidden = false },
		func(n *api.Net) { n.Roles = terms("chance, x, y, z-0") },
		func(n *api.Net) { n.Inputs[1] = api.Input{Role: 1, Move: terms("2")[0]} },
		func(n *api.Net) { n.Terminal, n.Next[0], n.Legal[0], n.Goals[0].Gate, n.Sees[0].Gate = 0, 11, 0, 11, 0 },
	)
}

// P20.1: the number of gates, before everything else
func TestCheckTooLarge(t *testing.T) {
	n := sample.Net(mixed)
	for len(n.Gates) < api.MaxGates {
		n.Gates = append(n.Gates, api.Gate{Kind: api.GateNot, In: []int{len(n.Gates) - 1}})
	}
	n.Terminal = api.MaxGates - 1
	if e := network.Check(n); e != api.OK {
		t.Error(e)
	}
	for _, g := range []api.Gate{{}, {Kind: -1}} {
		n.Gates = append(n.Gates, g)
		n.Gates[0] = g
		if e := network.Check(n); e != api.ErrTooLarge {
			t.Error(e)
		}
	}
	if e := network.Check(api.Net{Gates: make([]api.Gate, 1<<20)}); e != api.ErrTooLarge {
		t.Error(e)
	}
}

// P20.1: the errors of gates
func TestCheckGates(t *testing.T) {
	gate := func(i, kind, index int, in ...int) func(n *api.Net) {
		return func(n *api.Net) { n.Gates[i] = api.Gate{Kind: kind, Index: index, In: in} }
	}
	tryAll(t, api.ErrKind, gate(0, -1, 0), gate(0, 7, 0), gate(11, 1<<40, 0), gate(11, -1<<63, 0), gate(3, 7, 9, -1), gate(3, -1, -1, 9, 8))
	tryAll(t, api.ErrRange,
		gate(3, api.GateBase, 2), gate(3, api.GateBase, -1), gate(3, api.GateBase, 1<<62), gate(4, api.GateInput, 3), gate(4, api.GateInput, -1),
		gate(0, api.GateFalse, 1), gate(0, api.GateFalse, -1), gate(1, api.GateTrue, 1), gate(6, api.GateNot, 1, 2), gate(7, api.GateAnd, 1, 2), gate(7, api.GateOr, -1, 2),
		gate(3, api.GateBase, 2, 1), gate(6, api.GateNot, 1), gate(6, api.GateNot, 1, 7), gate(8, api.GateAnd, 1), gate(8, api.GateOr, 1, 3, 2),
	)
	tryAll(t, api.ErrInvalid,
		gate(3, api.GateFalse, 0, 1), gate(3, api.GateTrue, 0, 1), gate(3, api.GateBase, 0, 1), gate(3, api.GateInput, 0, 1), gate(3, api.GateInput, 0, 1, 2), gate(3, api.GateTrue, 0, 3), gate(0, api.GateFalse, 0, -1), gate(3, api.GateBase, 0, 2, 1),
		gate(6, api.GateNot, 0), gate(6, api.GateNot, 0, 1, 2), gate(6, api.GateNot, 0, 2, 1), gate(6, api.GateNot, 0, 7, 8), gate(7, api.GateAnd, 0), gate(7, api.GateOr, 0), gate(0, api.GateAnd, 0), gate(0, api.GateNot, 0),
	)
	tryAll(t, api.ErrOrder,
		gate(6, api.GateNot, 0, 6), gate(6, api.GateNot, 0, 7), gate(6, api.GateNot, 0, -1), gate(0, api.GateNot, 0, 0), gate(0, api.GateAnd, 0, 0), gate(0, api.GateOr, 0, -1), gate(7, api.GateAnd, 0, 7), gate(7, api.GateOr, 0, 8), gate(7, api.GateAnd, 0, 1<<62),
		gate(7, api.GateAnd, 0, -1), gate(7, api.GateAnd, 0, -1, 2), gate(7, api.GateOr, 0, -2, -1), gate(7, api.GateOr, 0, 2, 7), gate(7, api.GateAnd, 0, 2, 1), gate(7, api.GateAnd, 0, 1, 1), gate(7, api.GateOr, 0, 1, 3, 2, 5), gate(7, api.GateOr, 0, 1, 2, 3, 3), gate(7, api.GateAnd, 0, 0, -1, 2), gate(7, api.GateAnd, 0, 0, 9, 2),
	)
}

// P20.1: the first gate with an error determines it, and gates come before everything else.
func TestCheckOrder(t *testing.T) {
	kind, index, count, order := api.Gate{Kind: 7}, api.Gate{Index: 1}, api.Gate{Kind: api.GateAnd}, api.Gate{Kind: api.GateNot, In: []int{11}}
	spoil := func(n *api.Net) { n.Roles, n.Bases[0], n.Terminal = nil, api.Term{}, -1 }
	all := []api.Gate{kind, index, count, order}
	for i, e := range []api.Errno{api.ErrKind, api.ErrRange, api.ErrInvalid, api.ErrOrder} {
		for _, g := range all {
			tryAll(t, e,
				func(n *api.Net) { n.Gates[3], n.Gates[4] = all[i], g },
				func(n *api.Net) { n.Gates[3], n.Gates[10] = all[i], g },
				func(n *api.Net) { n.Gates[10] = all[i]; spoil(n) },
				func(n *api.Net) { n.Gates[0], n.Gates[11] = all[i], g; spoil(n) },
			)
		}
	}
	tryAll(t, api.ErrInvalid, spoil)
	tryAll(t, api.ErrRange, func(n *api.Net) { n.Bases, n.Next, n.Initial = n.Bases[:1], n.Next[:1], nil }, func(n *api.Net) { n.Inputs = nil })
}

// P20.1: roles, bases and inputs
func TestCheckNames(t *testing.T) {
	f := terms("f(a)")[0]
	roles := func(l ...api.Term) func(n *api.Net) { return func(n *api.Net) { n.Roles = l } }
	base := func(l ...api.Term) func(n *api.Net) { return func(n *api.Net) { n.Bases = l } }
	move := func(i, role int, m api.Term) func(n *api.Net) {
		return func(n *api.Net) { n.Inputs[i] = api.Input{Role: role, Move: m} }
	}
	name := func(s string) api.Term { return api.Term{Name: s} }
	tryAll(t, api.ErrInvalid,
		roles(), roles(terms("x")...), roles(terms("x, x")...), roles(terms("x, y, z, x")...), roles(terms("a, b, c, d, e")...), roles(name("x"), name("")), roles(name("x"), name("X")), roles(name("10"), name("x")), roles(name("x"), name("if")), roles(name("x"), f), roles(name("x"), name("a23456789012345678")), roles(make([]api.Term, 5)...),
		base(terms("1, 2, 3")...), base(terms("2, 2")...), base(terms("10, 2")...), base(terms("f(a), 10")...), base(terms("a, X")...), base(terms("a, f(X)")...), base(name("a"), nest(5)), base(name(""), name("a")), base(name("007"), name("a")), base(name("a"), name("a_")), base(name("a"), api.Term{Name: "10", Args: terms("a")}), base(name("a"), api.Term{Name: "f", Args: make([]api.Term, 5)}),
		move(0, -1, f), move(2, 2, f), move(2, 1<<40, f), move(0, 1, f), move(1, 0, terms("2")[0]), move(1, 0, terms("1")[0]), move(0, 0, terms("h(c)")[0]), move(1, 1, f), move(0, 0, name("X")), move(0, 0, name("")), move(1, 0, nest(5)), move(1, 0, api.Term{Name: "f", Args: []api.Term{{Name: "X"}}}), move(2, 0, terms("a")[0]),
		func(n *api.Net) { n.Inputs = append(n.Inputs, n.Inputs[2]); n.Legal = append(n.Legal, 0) },
	)
}

// P20.1: the other lists, and the gates to which they refer
func TestCheckOutputs(t *testing.T) {
	tryAll(t, api.ErrInvalid,
		func(n *api.Net) { n.Initial = []int{2} }, func(n *api.Net) { n.Initial = []int{-1} }, func(n *api.Net) { n.Initial = []int{1, 0} }, func(n *api.Net) { n.Initial = []int{1, 1} }, func(n *api.Net) { n.Initial = []int{0, 1, 2} },
		func(n *api.Net) { n.Next = nil }, func(n *api.Net) { n.Next = []int{8} }, func(n *api.Net) { n.Next = []int{8, 2, 2} }, func(n *api.Net) { n.Legal = nil }, func(n *api.Net) { n.Legal = n.Legal[:2] }, func(n *api.Net) { n.Legal = append(n.Legal, 0) },
	)
	for _, gate := range []int{-1, 12, 1 << 62, -1 << 63} {
		tryAll(t, api.ErrInvalid,
			func(n *api.Net) { n.Next[0] = gate }, func(n *api.Net) { n.Next[1] = gate }, func(n *api.Net) { n.Legal[0] = gate }, func(n *api.Net) { n.Legal[2] = gate }, func(n *api.Net) { n.Terminal = gate },
			func(n *api.Net) { n.Goals[0].Gate = gate }, func(n *api.Net) { n.Goals[2].Gate = gate }, func(n *api.Net) { n.Sees[0].Gate = gate }, func(n *api.Net) { n.Sees[2].Gate = gate },
		)
	}
	goal := func(i, role, value int, x api.Term) func(n *api.Net) {
		return func(n *api.Net) { n.Goals[i] = api.Output{Role: role, Value: value, Term: x} }
	}
	sees := func(i, role, value int, x api.Term) func(n *api.Net) {
		return func(n *api.Net) { n.Sees[i] = api.Output{Role: role, Value: value, Term: x} }
	}
	a, empty := api.Term{Name: "a"}, api.Term{}
	tryAll(t, api.ErrInvalid,
		goal(0, -1, 0, empty), goal(2, 2, 0, empty), goal(0, 0, -1, empty), goal(2, 1, 101, empty), goal(2, 1, 1<<40, empty), goal(2, 1, 50, a), goal(2, 1, 50, api.Term{Args: []api.Term{empty}}), goal(1, 0, 0, empty), goal(0, 0, 100, empty), goal(0, 1, 0, empty), goal(2, 0, 50, empty), goal(2, 0, 100, empty),
		sees(0, -1, 0, a), sees(2, 2, 0, a), sees(0, 0, 1, a), sees(2, 1, -1, a), sees(2, 1, 50, a), sees(2, 1, 0, empty), sees(2, 1, 0, api.Term{Name: "X"}), sees(2, 1, 0, nest(5)), sees(1, 0, 0, a), sees(1, 0, 0, terms("b")[0]), sees(0, 0, 0, terms("f(b,a)")[0]), sees(0, 1, 0, a), sees(2, 0, 0, a), sees(2, 0, 0, terms("f(a,10)")[0]),
	)
}

// P20.1: lists with one element too many, with one too few, or in another order
func TestCheckLists(t *testing.T) {
	tryAll(t, api.ErrInvalid,
		func(n *api.Net) { slices.Reverse(n.Bases) }, func(n *api.Net) { slices.Reverse(n.Inputs) }, func(n *api.Net) { slices.Reverse(n.Goals) }, func(n *api.Net) { slices.Reverse(n.Sees) },
		func(n *api.Net) { n.Goals = append(n.Goals, n.Goals[2]) }, func(n *api.Net) { n.Sees = append(n.Sees, n.Sees[2]) }, func(n *api.Net) { n.Bases = append(n.Bases, nest(3)) }, func(n *api.Net) { n.Inputs = append(n.Inputs, api.Input{Role: 1, Move: nest(3)}) },
		func(n *api.Net) { n.Gates = nil }, func(n *api.Net) { n.Gates = n.Gates[:11] }, func(n *api.Net) { *n = api.Net{} }, func(n *api.Net) { *n = api.Net{Roles: terms("x")} },
	)
	bare := sample.Net(least)
	for _, l := range [][]api.Term{nil, {}} {
		bare.Roles = l
		if e := network.Check(bare); e != api.ErrInvalid {
			t.Errorf("without roles: %d", e)
		}
	}
	tryAll(t, api.OK,
		func(n *api.Net) { n.Goals = n.Goals[:2] }, func(n *api.Net) { n.Sees = n.Sees[1:] }, func(n *api.Net) { *n = sample.Net(least) },
		func(n *api.Net) { n.Bases, n.Next = append(n.Bases, terms("f(b,a)")...), append(n.Next, 0) }, func(n *api.Net) {
			n.Inputs, n.Legal = append(n.Inputs, api.Input{Role: 1, Move: nest(3)}), append(n.Legal, 0)
		},
	)
}

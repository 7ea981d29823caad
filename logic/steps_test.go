package logic_test

import (
	"testing"

	"gameplayer/api"
	"gameplayer/printer"
	"gameplayer/sample"
	"gameplayer/term"
)

// P17.6: next states
func TestNext(t *testing.T) {
	const frame = "role(y). role(x). init(a). init(b). legal(x,m). legal(x,n). legal(y,m). legal(y,f(k)) if true(b). "
	for _, c := range []struct{ rules, state, joint, want string }{
		{"", "a, b", "m, n", ""},
		{"next(b). next(10). next(2). next(a). next(f(a)) if true(a). next(b) if does(x,m).", "a", "m, m", "2, 10, a, b, f(a)"},
		{"next(b). next(10). next(2). next(a). next(f(a)) if true(a). next(b) if does(x,m).", "b", "m, n", "2, 10, a, b"},
		{"next(X) if true(X).", "a, b", "m, n", "a, b"}, {"next(X) if true(X).", "", "m, n", ""}, {"next(X) if true(X) and not does(x,n).", "a, b", "m, n", ""}, {"next(X) if true(X) and not does(x,n).", "a, b", "m, m", "a, b"},
		{"next(X) if does(R,X).", "b", "m, n", "m, n"}, {"next(X) if does(R,X).", "b", "m, m", "m"}, {"next(X) if does(y,X).", "b", "f(k), n", "f(k)"}, {"next(X) if does(R,f(X)).", "b", "f(k), n", "k"},
		{"next(R) if does(R,n).", "", "m, n", "x"}, {"next(R) if does(R,M) and not distinct(M,n).", "", "m, m", ""}, {"next(did(R,M)) if does(R,M).", "", "m, n", "did(x,n), did(y,m)"},
		{"next(c) if p. p if not q. q if does(x,n) and not true(b).", "b", "m, n", "c"}, {"next(c) if p. p if not q. q if does(x,n) and not true(b).", "", "m, n", ""}, {"next(c) if p. p if not q. q if does(x,n) and not true(b).", "", "m, m", "c"},
		{"next(X) if old(X). old(X) if true(X) and not new(X). new(X) if r(X). r(b). r(X) if does(y,X).", "a, b", "m, n", "a"},
		{"next(c) if true(a). goal(x,1) if true(c). legal(z,m). next(d) if does(z,m).", "a", "m, n", "c"},
		{"next(c) if does(x,m) and does(y,m).", "", "m, m", "c"}, {"next(c) if does(x,m) and does(y,m).", "", "m, n", ""}, {"init(c). next(d) if not true(c).", "", "m, n", "d"}, {"next(c) if role(R) and not does(R,m).", "b", "m, m", ""}, {"next(c) if role(R) and not does(R,m).", "b", "f(k), m", "c"},
	} {
		if got, e := game(frame+c.rules).Next(terms(c.state), terms(c.joint)); printer.Terms(got) != c.want || e != api.OK {
			t.Errorf("%s: Next(%s; %s) is %s, %d, want %s", c.rules, c.state, c.joint, printer.Terms(got), e, c.want)
		}
	}
}

// P17.6: percepts
func TestSees(t *testing.T) {
	const frame = "role(y). role(x). role(chance). init(a). init(b). legal(x,m). legal(x,n). legal(y,m). legal(y,f(k)) if true(b). legal(chance,c). "
	for _, c := range []struct {
		rules, state, joint string
		role                int
		want                string
	}{
		{"", "a, b", "m, n, c", 0, ""}, {"", "a, b", "m, n, c", 2, ""}, {"next(X) if does(R,X).", "a", "m, n, c", 1, ""},
		{"sees(x,b). sees(x,10). sees(x,2). sees(x,f(a)) if true(a). sees(x,a). sees(x,b) if does(x,m).", "a", "m, m, c", 1, "2, 10, a, b, f(a)"}, {"sees(x,b). sees(x,10). sees(x,2). sees(x,f(a)) if true(a). sees(x,a).", "b", "m, n, c", 1, "2, 10, a, b"}, {"sees(x,b).", "b", "m, n, c", 0, ""},
		{"sees(x,M) if does(y,M).", "b", "m, n, c", 1, "m"}, {"sees(x,M) if does(y,M).", "b", "f(k), n, c", 1, "f(k)"}, {"sees(x,M) if does(y,M).", "b", "f(k), n, c", 0, ""}, {"sees(R,did(S,M)) if role(R) and does(S,M) and distinct(R,S).", "", "m, n, c", 0, "did(chance,c), did(x,n)"},
		{"sees(R,did(S,M)) if role(R) and does(S,M) and distinct(R,S).", "", "m, n, c", 2, "did(x,n), did(y,m)"}, {"sees(chance,s) if not does(x,m).", "", "m, n, c", 2, "s"}, {"sees(chance,s) if not does(x,m).", "", "m, m, c", 2, ""},
		{"sees(x,X) if true(X) and not p(X). p(X) if does(x,n) and true(X) and not q(X). q(b).", "a, b", "m, n, c", 1, "b"}, {"sees(x,X) if true(X) and not p(X). p(X) if does(x,n) and true(X) and not q(X). q(b).", "a, b", "m, m, c", 1, "a, b"},
		{"sees(z,s). sees(y,u) if p. p if q. q if p.", "", "m, n, c", 0, ""}, {"sees(z,s). next(s).", "", "m, n, c", 1, ""},
	} {
		if got, e := game(frame+c.rules).Sees(terms(c.state), terms(c.joint), c.role); printer.Terms(got) != c.want || e != api.OK {
			t.Errorf("%s: Sees(%s; %s; %d) is %s, %d, want %s", c.rules, c.state, c.joint, c.role, printer.Terms(got), e, c.want)
		}
	}
}

// P17.6: the errors of Next and Sees, in their order
func TestStepErrors(t *testing.T) {
	const frame = "role(y). role(x). init(a). init(b). legal(x,m). legal(x,n) if not true(b). legal(y,k). legal(y,f(k)). legal(y,m) if true(b). next(s) if does(x,m). "
	const hidden = "sees(R,s) if role(R). "
	for _, c := range []struct {
		rules, state, joint string
		role                int
		next, sees          api.Errno
	}{
		{"", "a", "k, n", 0, api.OK, api.OK}, {"", "a", "k, n", 1, api.OK, api.OK}, {"", "", "f(k), m", 1, api.OK, api.OK}, {"", "b", "m, m", 1, api.OK, api.OK},
		{"", "a", "", 0, api.ErrMove, api.ErrMove}, {"", "a", "k", 0, api.ErrMove, api.ErrMove}, {"", "a", "k, m, m", 0, api.ErrMove, api.ErrMove}, {"", "a", "k, m, k, m", 1, api.ErrMove, api.ErrMove}, {"", "a", "m, k", 0, api.ErrMove, api.ErrMove}, {"", "a", "m, m", 0, api.ErrMove, api.ErrMove}, {"", "b", "k, n", 1, api.ErrMove, api.ErrMove}, {"", "a", "k, z", 0, api.ErrMove, api.ErrMove}, {"", "a", "z, m", 0, api.ErrMove, api.ErrMove}, {"", "a", "k, X", 0, api.ErrMove, api.ErrMove}, {"", "a", "f(X), m", 0, api.ErrMove, api.ErrMove}, {"", "a", "f(k,k), m", 0, api.ErrMove, api.ErrMove}, {"", "a", "f, m", 0, api.ErrMove, api.ErrMove},
		{"", "c", "k, m", 0, api.ErrState, api.ErrState}, {"", "b, a", "k, m", 0, api.ErrState, api.ErrState}, {"", "a, a", "k", 2, api.ErrState, api.ErrState}, {"terminal.", "c", "k", 2, api.ErrState, api.ErrState}, {"", "m", "k, m", -1, api.ErrState, api.ErrState},
		{"", "a", "k, m", 2, api.OK, api.ErrRole}, {"", "a", "k, m", -1, api.OK, api.ErrRole}, {"", "a", "k, m", 1 << 40, api.OK, api.ErrRole}, {"", "a", "k", 2, api.ErrMove, api.ErrRole}, {"terminal.", "a", "k, m", 2, api.ErrTerminal, api.ErrRole}, {"terminal.", "a", "k", -1, api.ErrTerminal, api.ErrRole},
		{"terminal.", "a", "k, m", 0, api.ErrTerminal, api.ErrTerminal}, {"terminal.", "a", "k", 0, api.ErrTerminal, api.ErrTerminal}, {"terminal.", "a", "z, z", 0, api.ErrTerminal, api.ErrTerminal}, {"terminal if not true(a).", "", "k, m", 1, api.ErrTerminal, api.ErrTerminal}, {"terminal if not true(a).", "a", "k, m", 1, api.OK, api.OK}, {"terminal if true(s). next(t(M)) if does(y,M).", "s, t(f(k))", "", 1, api.ErrTerminal, api.ErrTerminal},
	} {
		for _, more := range []string{"", hidden} {
			g := game(frame + c.rules + more)
			state, joint := terms(c.state), terms(c.joint)
			if got, e := g.Next(state, joint); e != c.next || e != api.OK && len(got) > 0 {
				t.Errorf("%s: Next(%s; %s) is %s, %d, want %d", c.rules, c.state, c.joint, printer.Terms(got), e, c.next)
			}
			if got, e := g.Sees(state, joint, c.role); e != c.sees || (len(got) > 0) != (more != "" && e == api.OK) {
				t.Errorf("%s: Sees(%s; %s; %d) is %s, %d, want %d", c.rules, c.state, c.joint, c.role, printer.Terms(got), e, c.sees)
			}
		}
	}
}

// P17.6: Next and Sees do not depend on how many legal moves a role has, or on whether another one has none.
func TestStepsOfManyMoves(t *testing.T) {
	const more = "next(f(X)) if does(r0,X). sees(r1,X) if does(r1,X). "
	g := game(moves(65, 20) + more)
	next, e := g.Next(nil, terms("64, 19"))
	sees, f := g.Sees(nil, terms("64, 19"), 1)
	if printer.Terms(next) != "f(64)" || e != api.OK || printer.Terms(sees) != "19" || f != api.OK {
		t.Error(printer.Terms(next), e, printer.Terms(sees), f)
	}
	for _, joint := range []string{"65, 19", "64, 20", "19, 64"} {
		if next, e := g.Next(nil, terms(joint)); len(next) > 0 || e != api.ErrMove {
			t.Error(joint, printer.Terms(next), e)
		}
	}
	g = game(moves(2, 0) + more)
	for _, joint := range []string{"1", "1, 1", "0, 0", ""} {
		if next, e := g.Next(nil, terms(joint)); len(next) > 0 || e != api.ErrMove {
			t.Error(joint, printer.Terms(next), e)
		}
	}
}

// P17.6: what would hold by a move that is never legal does not matter, even if it is more than the limits permit.
func TestImpossibleMoves(t *testing.T) {
	g := game("role(x). init(a). legal(x,m) if true(a). next(f(X)) if does(x,g(X)). terminal if not true(a).")
	for _, c := range []struct {
		state string
		move  api.Term
		want  api.Errno
	}{
		{"a", terms("m")[0], api.OK}, {"", terms("m")[0], api.ErrTerminal},
		{"a", nested(3), api.ErrMove}, {"", nested(3), api.ErrTerminal}, {"a", nested(9), api.ErrMove}, {"", nested(9), api.ErrTerminal},
	} {
		if got, e := g.Next(terms(c.state), []api.Term{c.move}); len(got) > 0 || e != c.want {
			t.Errorf("Next(%s; %s) is %s, %d, want %d", c.state, term.Text(c.move), printer.Terms(got), e, c.want)
		}
	}
}

// nested is a term with a depth.
func nested(depth int) api.Term {
	t := api.Term{Name: "k"}
	for range depth - 1 {
		t = api.Term{Name: "g", Args: []api.Term{t}}
	}
	return t
}

// P17.2, P17.6: a game with chance and percepts, from its beginning to its end
func TestCoin(t *testing.T) {
	g := game(sample.Coin)
	state := g.Initial()
	for i, c := range []struct{ joints, joint, next, peeks, guesses, tosses string }{
		{"toss(heads), wait, wait; toss(tails), wait, wait", "toss(tails), wait, wait", "lies(tails)", "tails", "", ""},
		{"wait, call(heads), call(heads); wait, call(heads), call(tails); wait, call(tails), call(heads); wait, call(tails), call(tails)", "wait, call(tails), call(heads)", "lies(tails), called(guess,heads), called(peek,tails)", "own(tails)", "own(heads)", ""},
	} {
		joints, e := g.Joints(state)
		if list(joints) != c.joints || e != api.OK {
			t.Errorf("%d: Joints is %s, %d", i, list(joints), e)
		}
		for role, want := range []string{c.tosses, c.peeks, c.guesses} {
			if got, e := g.Sees(state, terms(c.joint), role); printer.Terms(got) != want || e != api.OK {
				t.Errorf("%d: Sees of %d is %s, %d", i, role, printer.Terms(got), e)
			}
		}
		if ends, e := g.Terminal(state); ends || e != api.OK {
			t.Errorf("%d: Terminal is %v, %d", i, ends, e)
		}
		if state, e = g.Next(state, terms(c.joint)); printer.Terms(state) != c.next || e != api.OK {
			t.Fatalf("%d: Next is %s, %d", i, printer.Terms(state), e)
		}
	}
	for role, want := range []int{0, 100, 0} {
		n, e := g.Goal(state, role)
		if n != want || e != api.OK && role > 0 || e != api.ErrRole && role == 0 {
			t.Errorf("Goal of %d is %d, %d", role, n, e)
		}
	}
	if ends, e := g.Terminal(state); !ends || e != api.OK {
		t.Error(ends, e)
	}
}

// P17.4 to P17.6: a course of noughts and crosses
func TestNoughts(t *testing.T) {
	g := game(sample.Noughts)
	state := g.Initial()
	for i, cell := range []string{"2,2", "1,1", "1,3", "3,1", "2,1", "1,2", "2,3"} {
		joints, e := g.Joints(state)
		if len(joints) != 9-i || e != api.OK {
			t.Fatal(i, len(joints), e)
		}
		for role := range 2 {
			if n, e := g.Goal(state, role); n != 0 || e != api.ErrGoal {
				t.Error(i, n, e)
			}
		}
		joint := []string{"mark(" + cell + "), noop", "noop, mark(" + cell + ")"}[i%2]
		if state, e = g.Next(state, terms(joint)); e != api.OK || len(state) != 10 || !g.Valid(state) {
			t.Fatal(i, printer.Terms(state), e)
		}
	}
	const want = "control(o), cell(1,1,o), cell(1,2,o), cell(1,3,x), cell(2,1,x), cell(2,2,x), cell(2,3,x), cell(3,1,o), cell(3,2,b), cell(3,3,b)"
	ends, e := g.Terminal(state)
	if printer.Terms(state) != want || !ends || e != api.OK {
		t.Error(printer.Terms(state), ends, e)
	}
	for role, want := range []int{100, 0} {
		if n, e := g.Goal(state, role); n != want || e != api.OK {
			t.Error(role, n, e)
		}
	}
}

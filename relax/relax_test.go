package relax_test

import (
	"fmt"
	"strings"
	"testing"

	"gameplayer/api"
	"gameplayer/parser"
	"gameplayer/printer"
	"gameplayer/relax"
)

// read reads a description.
func read(s string) []api.Rule {
	l, _, e := parser.Parse(s)
	if e != api.OK {
		panic(s)
	}
	return l
}

// terms reads terms.
func terms(s string) []api.Term {
	l, _, e := parser.Terms(s)
	if e != api.OK {
		panic(s)
	}
	return l
}

// f makes a term.
func f(name string, args ...api.Term) api.Term { return api.Term{Name: name, Args: args} }

// facts are the facts of a relation for the numbers below n.
func facts(relation string, n int) string {
	var text strings.Builder
	for i := range n {
		fmt.Fprintf(&text, "%s(%d). ", relation, i)
	}
	return text.String()
}

const lamp = "role(x). init(on). legal(x,stay) if true(on). next(on) if does(x,stay). "

// P12.1: what a round yields
func TestRound(t *testing.T) {
	for _, c := range []struct{ rules, atoms, want string }{
		{"role(x).", "", "role(x)"},
		{"role(x).", "z(b), a, z(b), z(a,a), z(10), z(2)", "a, role(x), z(2), z(10), z(b), z(a,a)"},
		{lamp, "", "init(on), role(x)"},
		{lamp, "init(on), role(x)", "init(on), role(x), true(on)"},
		{lamp, "legal(x,stay), init(on)", "init(on), role(x), true(on), does(x,stay), legal(x,stay)"},
		{lamp, "does(x,stay)", "init(on), next(on), role(x), does(x,stay)"},
		{lamp, "next(off)", "init(on), next(off), role(x), true(off)"},
		{lamp, "true(off), does(y,stay), does(x,go)", "init(on), role(x), true(off), does(x,go), does(y,stay)"},

		// atoms of this round do not count
		{"role(x). p. q if p. r if q.", "", "p, role(x)"},
		{"role(x). p. q if p. r if q.", "p", "p, q, role(x)"},
		{"role(x). p. q if p. r if q.", "q", "p, q, r, role(x)"},
		{"role(x). p(a). p(f(X)) if p(X).", "p(b)", "p(a), p(b), p(f(b)), role(x)"},

		// the two kinds of atoms that are derived without a rule
		{"role(x).", "init(a), next(a), next(f(b))", "init(a), next(a), next(f(b)), role(x), true(a), true(f(b))"},
		{"role(x).", "legal(x,f(a)), legal(a,7)", "role(x), does(a,7), does(x,f(a)), legal(a,7), legal(x,f(a))"},
		{"role(x).", "init(a,b), next, legal(x), legal(x,y,z), init(init(a))", "next, init(init(a)), legal(x), role(x), true(init(a)), init(a,b), legal(x,y,z)"},

		// literals that are not negated
		{"role(x). p if q and r.", "q", "q, role(x)"},
		{"role(x). p if q and r.", "q, r", "p, q, r, role(x)"},
		{"role(x). p if q(a).", "q(b), q, q(a,a), q(f(a))", "q, q(b), q(f(a)), role(x), q(a,a)"},
		{"role(x). p if q(f(a,X)).", "q(f(a,b)), q(a)", "p, q(a), q(f(a,b)), role(x)"},
		{"role(x). p if q(f(a,X)).", "q(f(b,a)), q(g(a,b)), q(f(a)), q(f(a,b,c))", "q(f(a)), q(f(b,a)), q(g(a,b)), q(f(a,b,c)), role(x)"},
		{"role(x). p(X) if q(X,X).", "q(a,b), q(b,b), q(f(a),f(a)), q(f(b),f(a))", "p(b), p(f(a)), role(x), q(a,b), q(b,b), q(f(a),f(a)), q(f(b),f(a))"},
		{"role(x). p(X,Z) if e(X,Y) and e(Y,Z).", "e(a,b), e(b,c), e(c,a), e(d,d)", "role(x), e(a,b), e(b,c), e(c,a), e(d,d), p(a,c), p(b,a), p(c,b), p(d,d)"},
		{"role(x). p(X,Y) if q(X) and q(Y).", "q(a), q(b)", "q(a), q(b), role(x), p(a,a), p(a,b), p(b,a), p(b,b)"},
		{"role(x). p(f(X,Y)) if q(X) and r(Y).", "q(a), q(b), r(c)", "p(f(a,c)), p(f(b,c)), q(a), q(b), r(c), role(x)"},
		{"role(x). p(X) if q(X) and q(f(X)).", "q(a), q(f(b)), q(b)", "p(b), q(a), q(b), q(f(b)), role(x)"},
		{"role(x). p(X) if role(X) and true(X).", "role(y), true(y), true(x)", "p(y), role(x), role(y), true(x), true(y)"},
		{"role(x). q(Y) if true(cell(X,Y)) and true(at(X)).", "true(cell(1,a)), true(cell(2,b)), true(at(2))", "q(b), role(x), true(at(2)), true(cell(1,a)), true(cell(2,b))"},

		// literals that are negated
		{"role(x). p if not q.", "", "p, role(x)"},
		{"role(x). p if not q.", "q", "p, q, role(x)"},
		{"role(x). p(X) if q(X) and not r(X).", "q(a), r(a), r(b)", "p(a), q(a), r(a), r(b), role(x)"},
		{"role(x). p if not q(a) and r.", "", "role(x)"},

		// distinct
		{"role(x). p if distinct(a,b). q if distinct(a,a). r if not distinct(a,b). s if not distinct(f(a),f(a)).", "", "p, s, role(x)"},
		{"role(x). p if distinct(1,2). q if distinct(f(a),f(a,a)). r if distinct(f(a),a). s if not distinct(f(a),g(a)).", "", "p, q, r, role(x)"},
		{"role(x). p(X) if q(X,Y) and distinct(X,Y).", "q(a,a), q(b,a)", "p(b), role(x), q(a,a), q(b,a)"},
		{"role(x). p(X) if distinct(X,Y) and q(X) and q(Y) and distinct(a,X).", "q(a), q(b)", "p(b), q(a), q(b), role(x)"},
		{"role(x). p(X) if q(X) and r(Y) and not distinct(X,f(Y)).", "q(a), q(f(a)), q(f(b)), r(a), r(f(a))", "p(f(a)), q(a), q(f(a)), q(f(b)), r(a), r(f(a)), role(x)"},
		{"role(x). p if distinct(a,b).", "distinct(a,a)", "p, role(x), distinct(a,a)"},
		{"role(x). p if not distinct(a,b).", "distinct(a,b)", "role(x), distinct(a,b)"},
	} {
		got, e := relax.Round(read(c.rules), terms(c.atoms))
		if s := printer.Terms(got); s != c.want || e != api.OK {
			t.Errorf("Round(%s; %s) is %s, %d, want %s", c.rules, c.atoms, s, e, c.want)
		}
	}
}

// P12.1: the errors of a round, in their order
func TestRoundErrors(t *testing.T) {
	deep := f("p", f("f", f("f", f("f", f("a")))))
	many := terms(strings.TrimSuffix(strings.ReplaceAll(facts("n", 513), ". ", ", "), ", "))
	const role = "role(x). "
	for _, c := range []struct {
		rules string
		atoms []api.Term
		want  api.Errno
	}{
		{"p.", nil, api.ErrRole},
		{"role(x). p(X).", nil, api.ErrUnsafe},
		{"role(x). p if not p.", nil, api.ErrCycle},
		{"role(x). p. p(a).", []api.Term{deep}, api.ErrArity},
		{"p.", many, api.ErrRole},
		{role, []api.Term{deep}, api.ErrDepth},
		{role, append([]api.Term{deep}, many...), api.ErrDepth},
		{role, append(many[1:], deep), api.ErrDepth},

		{role + "p(f(X)) if p(X).", terms("p(f(a))"), api.OK},
		{role + "p(f(X)) if p(X).", terms("p(f(f(a)))"), api.ErrDepth},
		{role + "p(f(X)) if q(X).", terms("p(f(f(a)))"), api.OK},
		{role + "p(a,f(b,X)) if q(X,X).", terms("q(f(f(a)),f(f(a)))"), api.ErrDepth},
		{role + "p(a,f(b,X)) if q(X,X).", terms("q(f(f(a)),f(a))"), api.OK},
		{role + "p(f(X)) if q(X) and distinct(X,f(f(a))).", terms("q(f(f(a)))"), api.OK},
		{role + "p(f(X)) if q(X) and not distinct(X,f(f(a))).", terms("q(f(f(a)))"), api.ErrDepth},
		{role + "p(f(X)) if q(X) and r.", terms("q(f(f(a)))"), api.OK},
		{role + "p(f(X)) if q(X) and not r.", terms("q(f(f(a))), r"), api.ErrDepth},
		{role + "p if q(X) and distinct(f(f(X)),X).", terms("q(f(f(a)))"), api.OK}, // only in a literal

		{role, many[:511], api.OK},
		{role, many[:512], api.ErrTooLarge},
		{role, append(many[:511:511], many[:511]...), api.OK}, // repeated
		{role, append(many[:511:511], f("role", f("x"))), api.OK},
		{role, append(many[:511:511], f("role", f("y"))), api.ErrTooLarge},
		{role, append(many[:510:510], f("next", f("y"))), api.ErrTooLarge},
		{role, append(many[:509:509], f("next", f("y"))), api.OK},
		{role, append(many[:510:510], f("legal", f("x"), f("y"))), api.ErrTooLarge},
		{role, append(many[:509:509], f("legal", f("x"), f("y"))), api.OK},
		{role + "m(X) if n(X).", many[:256], api.ErrTooLarge},
		{role + "m(X) if n(X).", many[:255], api.OK},
		{role + "m if n(X) and n(Y) and n(Z).", many[:510], api.OK},
		{role + "m if n(X) and n(Y) and n(Z).", many[:511], api.ErrTooLarge},

		// ErrDepth first, in whatever rule and instance
		{role + "m(X,Y) if n(X) and n(Y). p(f(Y)) if q(Y).", append(many[:100:100], f("q", f("f", f("f", f("a"))))), api.ErrDepth},
		{role + "p(f(Y)) if q(Y). m(X,Y) if n(X) and n(Y).", append(many[:100:100], f("q", f("f", f("f", f("a"))))), api.ErrDepth},
		{role + "m(X,f(Y)) if n(X) and n(Y).", append(many[:100:100], f("n", f("f", f("f", f("a"))))), api.ErrDepth},
		{role + "m(X,f(Y)) if n(X) and n(Y).", append(many[:512:512], f("n", f("f", f("f", f("a"))))), api.ErrDepth},
		{role + "m(X,f(Y)) if n(X) and n(Y).", append(many[:512:512], f("n", f("f", f("a")))), api.ErrTooLarge},
		{role + "m(f(X),Y) if n(X) and n(Y) and distinct(X,f(f(a))).", append(many[:100:100], f("n", f("f", f("f", f("a"))))), api.ErrTooLarge},
		{role + "m(f(X),Y) if n(X) and n(Y) and distinct(Y,f(f(a))).", append(many[:100:100], f("n", f("f", f("f", f("a"))))), api.ErrDepth},
		{role + "m(f(X),Y) if n(X) and n(Y) and r(X).", append(many[:500:500], terms("n(f(f(a))), r(f(a))")...), api.OK},
	} {
		got, e := relax.Round(read(c.rules), c.atoms)
		if e != c.want || (e == api.OK) != (len(got) > 0) {
			t.Errorf("Round(%s) of %d atoms is %d atoms, %d, want %d", c.rules, len(c.atoms), len(got), e, c.want)
		}
	}
}

// P12.2
func TestAtoms(t *testing.T) {
	for _, c := range []struct {
		s, want string
		e       api.Errno
	}{
		{"role(x).", "role(x)", api.OK},
		{lamp, "init(on), next(on), role(x), true(on), does(x,stay), legal(x,stay)", api.OK},
		{"role(x). p if not q.", "p, role(x)", api.OK},
		{"role(x). p if q. q if p.", "role(x)", api.OK},
		{"role(x). p if q. q if r. r if s. s if t. t.", "p, q, r, s, t, role(x)", api.OK},
		{"role(x). p if true(a). init(a) if role(x). init(b) if role(y).", "p, init(a), role(x), true(a)", api.OK},
		{"role(x). q(X) if r(X,Y) and not distinct(X,Y). r(a,a). r(a,b).", "q(a), role(x), r(a,a), r(a,b)", api.OK},
		{"role(x). q(X) if r(X,Y) and distinct(X,Y). r(a,a). r(a,b).", "q(a), role(x), r(a,a), r(a,b)", api.OK},
		{"role(x). q(X) if r(X,Y) and not distinct(X,Y). r(a,a). r(b,c).", "q(a), role(x), r(a,a), r(b,c)", api.OK},
		{"role(x). q(X) if r(X,Y) and distinct(X,Y). r(a,a). r(b,c).", "q(b), role(x), r(a,a), r(b,c)", api.OK},
		{"role(x). r(X,Z) if r(X,Y) and r(Y,Z). r(a,b). r(b,c). r(c,d).", "role(x), r(a,b), r(a,c), r(a,d), r(b,c), r(b,d), r(c,d)", api.OK},
		{"role(x). init(n(0)). next(n(Y)) if true(n(X)) and s(X,Y). s(0,1). s(1,2). s(5,6).", "init(n(0)), next(n(1)), next(n(2)), role(x), true(n(0)), true(n(1)), true(n(2)), s(0,1), s(1,2), s(5,6)", api.OK},
		{"role(x). role(y). init(a). legal(R,M) if role(R) and true(M). next(f(M)) if does(x,M). next(g) if does(x,f(a)) and does(y,a). terminal if end. end if not true(a). goal(x,1) if end. sees(y,M) if does(x,M) and not distinct(M,a).", "", api.ErrDepth},
		{"role(x). role(y). init(a). legal(R,M) if role(R) and true(M). next(b) if does(x,M). next(g) if does(x,b) and does(y,a). terminal if end. end if not true(a). goal(x,1) if end. sees(y,M) if does(x,M) and not distinct(M,a).", "end, terminal, init(a), next(b), next(g), role(x), role(y), true(a), true(b), true(g), does(x,a), does(x,b), does(x,g), does(y,a), does(y,b), does(y,g), goal(x,1), legal(x,a), legal(x,b), legal(x,g), legal(y,a), legal(y,b), legal(y,g), sees(y,a)", api.OK},

		{"role(x). p(a). p(f(X)) if p(X).", "", api.ErrDepth},
		{"role(x). p(a). p(f(X)) if p(X) and q(X). q(a). q(f(a)).", "p(a), p(f(a)), p(f(f(a))), q(a), q(f(a)), role(x)", api.OK},
		{"role(x). n(0). n(1). n(2). n(3). n(4). p(A,B,C,D) if n(A) and n(B) and n(C) and n(D).", "", api.ErrTooLarge},
		{"p.", "", api.ErrRole},
		{"role(x). p(X) if not q(X).", "", api.ErrUnsafe},
		{"role(x). p if not q. q if not p.", "", api.ErrCycle},
		{strings.Repeat("role(x). ", 128), "role(x)", api.OK},
	} {
		got, e := relax.Atoms(read(c.s))
		want := c.want
		if c.e != api.OK {
			want = ""
		}
		if s := printer.Terms(got); s != want || e != c.e {
			t.Errorf("Atoms(%s) is %s, %d, want %s, %d", c.s, s, e, want, c.e)
		}
	}
}

// P12.2: exactly as many atoms as are permitted, which are found in one round or in many
func TestAtomsLimit(t *testing.T) {
	const grid = "role(x). p(A,B,C) if n(A) and n(B) and n(C). n(0). n(1). n(2). n(3). n(4). n(5). n(6). " // 351 atoms
	pairs := func(n int) string { return facts("m", n) + "q(X,Y) if m(X) and m(Y) and distinct(X,Y). " }
	chain := func(n int) string {
		s := "role(x). c(0,0). c(A,E) if c(A,B) and d(B,E). c(E,0) if c(A,9) and d(A,E). "
		for i := range n {
			s += fmt.Sprintf("d(%d,%d). ", i, i+1)
		}
		return s
	}
	for _, c := range []struct {
		s    string
		n    int
		want api.Errno
	}{
		{grid + pairs(12), 351 + 144, api.OK},
		{grid + pairs(12) + facts("k", 17), 512, api.OK},
		{grid + pairs(12) + facts("k", 18), 0, api.ErrTooLarge},
		{grid + pairs(13), 0, api.ErrTooLarge},
		{chain(19), 1 + 19 + 20*20, api.OK},
		{chain(21), 1 + 21 + 22*22, api.OK},
		{chain(22), 0, api.ErrTooLarge},
	} {
		got, e := relax.Atoms(read(c.s))
		if e != c.want || e == api.OK && len(got) != c.n || e != api.OK && len(got) != 0 {
			t.Errorf("Atoms(%s) is %d atoms, %d, want %d, %d", c.s, len(got), e, c.n, c.want)
		}
	}
}

// P12.2: the first round with an error decides which one it is.
func TestAtomsFirstError(t *testing.T) {
	const large, deep = "m(X,Y) if n(X) and n(Y). ", "p(f(f(X))) if n(X). "
	const later, latest = "q(X) if n(X). ", "r(X) if q(X). "
	n := "role(x). n(f(a)). " + facts("n", 30)
	at := func(rule, relation string) string { return strings.ReplaceAll(rule, "n(", relation+"(") }
	for _, c := range []struct {
		s    string
		want api.Errno
	}{
		{n, api.OK},
		{n + later + latest, api.OK},
		{n + large, api.ErrTooLarge},
		{n + deep, api.ErrDepth},
		{n + large + deep, api.ErrDepth},
		{n + deep + large, api.ErrDepth},
		{n + later + at(large, "q") + deep, api.ErrDepth},
		{n + later + deep + at(large, "q"), api.ErrDepth},
		{n + later + large + at(deep, "q"), api.ErrTooLarge},
		{n + later + at(deep, "q") + large, api.ErrTooLarge},
		{n + later + at(large, "q") + at(deep, "q"), api.ErrDepth},
		{n + later + latest + at(large, "r") + at(deep, "r"), api.ErrDepth},
		{n + later + latest + at(large, "q") + at(deep, "r"), api.ErrTooLarge},
		{n + later + latest + at(large, "r") + at(deep, "q"), api.ErrDepth},
		{n + "p(f(f(X)),Y,Z) if n(X) and n(Y) and n(Z). ", api.ErrDepth},
		{n + "p(f(f(X)),Y,Z) if n(X) and n(Y) and n(Z) and distinct(X,f(a)). ", api.ErrTooLarge},
		{n + "p(Y,Z,f(f(X))) if n(X) and n(Y) and n(Z) and distinct(Y,f(a)). ", api.ErrDepth},
	} {
		if got, e := relax.Atoms(read(c.s)); e != c.want || (e == api.OK) != (len(got) > 0) {
			t.Errorf("Atoms(%s) is %d atoms, %d, want %d", c.s, len(got), e, c.want)
		}
	}
}

// P12.3
func TestBasesMovesPercepts(t *testing.T) {
	atoms := terms("true(b), does(x,m), does(y,n), sees(x,s), true(a), does(x,k), true(b), init(c), legal(x,z), sees(y,s), sees(x,10), sees(x,2), sees(x,s), true(f(a)), does(f(a),g(b)), next(d), does(x,m), q(true(z)), role(x)")
	x, y := f("x"), f("y")
	for _, c := range []struct {
		name, want string
		got        []api.Term
	}{
		{"Bases", "a, b, f(a)", relax.Bases(atoms)},
		{"Moves of x", "k, m", relax.Moves(atoms, x)},
		{"Moves of y", "n", relax.Moves(atoms, y)},
		{"Moves of z", "", relax.Moves(atoms, f("z"))},
		{"Moves of f(a)", "g(b)", relax.Moves(atoms, f("f", f("a")))},
		{"Percepts of x", "2, 10, s", relax.Percepts(atoms, x)},
		{"Percepts of y", "s", relax.Percepts(atoms, y)},
		{"Percepts of x()", "2, 10, s", relax.Percepts(atoms, api.Term{Name: "x", Args: []api.Term{}})},
		{"Percepts of nothing", "", relax.Percepts(atoms, api.Term{})},
		{"Bases of none", "", relax.Bases(nil)},
		{"Moves of none", "", relax.Moves(nil, x)},
		{"Percepts of none", "", relax.Percepts([]api.Term{}, x)},
	} {
		if s := printer.Terms(c.got); s != c.want {
			t.Errorf("%s is %s, want %s", c.name, s, c.want)
		}
	}
	other := []api.Term{f("true"), f("true", x, x), f("does"), f("does", x), f("does", x, x, x), f("sees"), f("sees", x), f("sees", x, x, x)}
	if len(relax.Bases(other)) != 0 || len(relax.Moves(other, x)) != 0 || len(relax.Percepts(other, x)) != 0 {
		t.Error("other numbers of arguments")
	}
	game, _ := relax.Atoms(read(lamp))
	if printer.Terms(relax.Bases(game)) != "on" || printer.Terms(relax.Moves(game, x)) != "stay" {
		t.Error("the example of the chapter")
	}
}

// the first and the third example of the chapter, round by round
func TestExampleRounds(t *testing.T) {
	for _, c := range []struct {
		s, rounds string
		e         api.Errno
	}{
		{lamp, "init(on), role(x) | true(on) | legal(x,stay) | does(x,stay) | next(on) |", api.OK},
		{"role(x). p(f(X)) if p(X). p(a).", "p(a), role(x) | p(f(a)) | p(f(f(a)))", api.ErrDepth},
	} {
		l := read(c.s)
		var atoms []api.Term
		for want := range strings.SplitSeq(c.rounds, "|") {
			next, e := relax.Round(l, atoms)
			var fresh []api.Term
			for _, t := range next {
				if !strings.Contains(", "+printer.Terms(atoms)+",", ", "+printer.Terms([]api.Term{t})+",") {
					fresh = append(fresh, t)
				}
			}
			if got := printer.Terms(fresh); e != api.OK || got != strings.TrimSpace(want) {
				t.Errorf("%s: %s, %d, want %s", c.s, got, e, want)
			}
			atoms = next
		}
		if _, e := relax.Round(l, atoms); e != c.e {
			t.Errorf("%s: %d, want %d", c.s, e, c.e)
		}
	}
}

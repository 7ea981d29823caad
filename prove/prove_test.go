package prove_test

import (
	"fmt"
	"strings"
	"testing"

	"gameplayer/api"
	"gameplayer/parser"
	"gameplayer/printer"
	"gameplayer/prove"
	"gameplayer/term"
)

// read reads rules.
func read(s string) []api.Rule {
	l, _, e := parser.Parse(s)
	if e != api.OK {
		panic(s)
	}
	return l
}

// terms reads terms.
func terms(s string) []api.Term {
	l, _, e := parser.Terms(s)
	if e != api.OK {
		panic(s)
	}
	return l
}

// f makes a term.
func f(name string, args ...api.Term) api.Term { return api.Term{Name: name, Args: args} }

// facts are the facts of a relation for the numbers below n.
func facts(relation string, n int) string {
	var text strings.Builder
	for i := range n {
		fmt.Fprintf(&text, "%s(%d). ", relation, i)
	}
	return text.String()
}

// trues are the atoms true(f) for the numbers f below n.
func trues(n int) []api.Term {
	var l []api.Term
	for i := range n {
		l = append(l, f("true", f(fmt.Sprint(i))))
	}
	return l
}

// nested is a constant in so many functions that the term has a depth.
func nested(depth int, name string) api.Term {
	if depth == 1 {
		return f(name)
	}
	return f("f", nested(depth-1, name))
}

const path = "path(X,Y) if edge(X,Y). path(X,Z) if path(X,Y) and edge(Y,Z). edge(a,b). edge(b,c). "

// P15.1: the atoms that hold
func TestFacts(t *testing.T) {
	for _, c := range []struct{ rules, given, want string }{
		{"", "", ""},
		{"", "true(b), does(x,a), true(a), true(b)", "true(a), true(b), does(x,a)"},
		{"p(X) if true(X) and not q(X). q(a).", "true(a), true(b)", "p(b), q(a), true(a), true(b)"},
		{path, "", "edge(a,b), edge(b,c), path(a,b), path(a,c), path(b,c)"},
		{"p. p if p. p if q. q if p.", "", "p, q"},
		{"p if p. q if not p. r if not q. s if not r.", "", "q, s"},
		{"a if not b. b if not c. c if not d. d if not e.", "", "b, d"},
		{"p(2,f(X)) if true(X). p(f(X)) if true(X). p if true(X).", "true(10), true(f(a))", "p, p(f(10)), p(f(f(a))), true(10), true(f(a)), p(2,f(10)), p(2,f(f(a)))"},
		{"p(X,Y) if true(X) and does(Y,X).", "true(a), true(b), does(x,a), does(y,b), does(x,c)", "true(a), true(b), does(x,a), does(x,c), does(y,b), p(a,x), p(b,y)"},
		{"p(X) if true(f(X,X)). q(X,Y) if true(f(X,g(Y))).", "true(f(a,a)), true(f(a,b)), true(f(g(a),g(a))), true(f(c)), true(g(b,b))", "p(a), p(g(a)), true(f(c)), true(f(a,a)), true(f(a,b)), true(f(g(a),g(a))), true(g(b,b)), q(g(a),a)"},
		{"p if true(a) and does(x,b).", "true(a), does(x,b)", "p, true(a), does(x,b)"},
		{"p if true(a) and does(x,b).", "true(a), does(x,c)", "true(a), does(x,c)"},
		{"p if not true(a). q if not does(x,b) and true(b).", "true(b), does(x,a)", "p, q, true(b), does(x,a)"},
		{"p if not true(a). q if not does(x,b) and true(b).", "true(a), true(b), does(x,b)", "true(a), true(b), does(x,b)"},
		{"role(x). init(on). legal(x,stay) if true(on). next(on) if does(x,stay).", "true(on)", "init(on), role(x), true(on), legal(x,stay)"},
		{"legal(x,f(f(a))) if role(x). role(x). goal(x,100) if role(x). terminal.", "", "role(x), terminal, goal(x,100), legal(x,f(f(a)))"},
		{"p(a). p(a,b). q(X) if p(X). r(X) if p(X,Y). s if not p.", "", "p(a), q(a), r(a), s, p(a,b)"},
	} {
		got, e := prove.Facts(read(c.rules), terms(c.given))
		if want := printer.Terms(term.Sort(terms(c.want))); printer.Terms(got) != want || e != api.OK {
			t.Errorf("Facts(%s, %s) is %s, %d, want %s", c.rules, c.given, printer.Terms(got), e, want)
		}
	}
}

// P15.1: literals with distinct
func TestFactsDistinct(t *testing.T) {
	for _, c := range []struct{ rules, want string }{
		{"p(X,Y) if true(X) and true(Y) and distinct(X,Y).", "p(a,b), p(a,f(a)), p(b,a), p(b,f(a)), p(f(a),a), p(f(a),b)"},
		{"p(X,Y) if true(X) and true(Y) and not distinct(X,Y).", "p(a,a), p(b,b), p(f(a),f(a))"},
		{"p(X,Y) if true(X) and true(Y) and distinct(f(X),Y) and distinct(X,b).", "p(a,a), p(a,b), p(f(a),a), p(f(a),b), p(f(a),f(a))"},
		{"p(X,Y) if true(X) and true(Y) and not distinct(f(X),Y).", "p(a,f(a))"},
		{"p(X,Y) if true(X) and true(Y) and not distinct(g(X,b),g(a,Y)).", "p(a,b)"},
		{"p(X) if true(X) and distinct(f(f(X)),f(f(b))).", "p(a), p(f(a))"},
		{"p(X) if true(X) and not distinct(f(f(X)),f(f(Y))) and true(Y) and distinct(Y,b).", "p(a), p(f(a))"},
		{"p if distinct(a,b). q if distinct(a,a). r if not distinct(a,b). s if not distinct(a,a).", "p, s"},
		{"p if distinct(f(a),f(a)). q if distinct(f(a),f(a,a)). r if distinct(f(a),g(a)). s if not distinct(f(a),f(a)). u if distinct(1,2).", "q, r, s, u"},
	} {
		for i, l := range [][]api.Rule{read(c.rules), read(c.rules + " z(Y) if true(Y) and not w and distinct(Y,Y).")} {
			got, e := prove.Facts(l, terms("true(a), true(b), true(f(a))"))
			if want := term.Sort(append(terms(c.want), terms("true(a), true(b), true(f(a))")...)); term.CompareList(got, want) != 0 || e != api.OK {
				t.Errorf("%d: Facts(%s) is %s, %d, want %s", i, c.rules, printer.Terms(got), e, printer.Terms(want))
			}
		}
	}
}

// P15.1: the errors, in their order
func TestFactsErrors(t *testing.T) {
	long := strings.Repeat("p. ", 128)
	wrong := append(read("p."), api.Rule{Head: f("p", f("X"))}, api.Rule{Head: f("007")})
	cycle := "a if not b. b if not a. "
	deep := "n(f(X)) if n(X). n(a). "
	many := facts("n", 23) + "m(X,Y) if n(X) and n(Y). "
	for i, c := range []struct {
		l     []api.Rule
		given string
		want  api.Errno
	}{
		{read(long), "", api.OK}, {append(read(long), read("p.")...), "", api.ErrTooLong}, {append(wrong, make([]api.Rule, 126)...), "p", api.ErrTooLong},
		{wrong, "", api.ErrUnsafe}, {wrong[2:], "", api.ErrName}, {make([]api.Rule, 1), "", api.ErrName}, {append(wrong, read(cycle)...), "p", api.ErrUnsafe},
		{[]api.Rule{{Head: f("p"), Body: make([]api.Literal, 9)}}, "", api.ErrTooLong}, {[]api.Rule{{Head: f("init", f("a"), f("b"))}}, "", api.ErrArity}, {[]api.Rule{{Head: nested(5, "a")}}, "", api.ErrDepth},
		{[]api.Rule{{Head: f("true", f("a"))}}, "", api.ErrKeyword}, {[]api.Rule{{Head: f("p"), Body: []api.Literal{{Atom: f("legal", f("x"), f("a"))}}}}, "", api.ErrKeyword}, {[]api.Rule{{Head: f("role", f("7"))}}, "", api.ErrRole},
		{read("p(A) if q(A,B,C) and q(D,E,F)."), "", api.ErrTooLarge},
		{read(cycle), "p", api.ErrCycle}, {read(cycle + deep), "", api.ErrCycle}, {read("p if not p."), "true(a)", api.ErrCycle}, {read("p if q. q if not r. r if p(a)."), "", api.ErrCycle},
		{read(deep), "p", api.ErrInvalid}, {read("p."), "true(X)", api.ErrInvalid}, {read("p."), "true(f(X))", api.ErrInvalid}, {read("p."), "true(a,b)", api.ErrInvalid}, {read("p."), "true", api.ErrInvalid}, {read("p."), "does(x)", api.ErrInvalid}, {read("p."), "does(x,a,b)", api.ErrInvalid},
		{read("p."), "true(a), legal(x,a)", api.ErrInvalid}, {read("p."), "init(a)", api.ErrInvalid}, {read("p."), "distinct(a,b)", api.ErrInvalid}, {read("p."), "true(a), X", api.ErrInvalid}, {read("p."), "p", api.ErrInvalid}, {nil, "does(x,a), role(x)", api.ErrInvalid},
		{read(deep), "", api.ErrDepth}, {read(many), "", api.ErrTooLarge}, {read(many + deep), "true(a)", api.ErrTooLarge}, // the depth is too great one round later
		{read("p(f(X)) if true(f(f(X)))."), "true(f(f(a)))", api.OK}, {read("p(f(f(X))) if true(X)."), "true(f(f(a))), true(a)", api.ErrDepth}, {read("p(f(f(X)),Y) if true(X) and true(Y) and not true(b)."), "true(f(a)), true(f(f(a)))", api.ErrDepth}, {read("p(f(f(X))) if true(X) and not true(b)."), "true(b), true(f(f(a)))", api.OK},
		{read("p(f(f(X))) if true(X) and distinct(X,f(f(a)))."), "true(a), true(f(f(a)))", api.OK}, {read("p(f(f(X))) if true(X) and not distinct(X,f(f(a)))."), "true(a), true(f(f(a)))", api.ErrDepth}, {read("p(f(f(X))) if true(X) and not distinct(X,f(f(b)))."), "true(a), true(f(f(a)))", api.OK},
	} {
		if got, e := prove.Facts(c.l, terms(c.given)); e != c.want || e != api.OK && len(got) > 0 {
			t.Errorf("%d: Facts(%.60s; %s) is %s, %d, want %d", i, fmt.Sprint(c.l), c.given, printer.Terms(got), e, c.want)
		}
	}
	for _, x := range []api.Term{{}, f("true", api.Term{}), f("true", f("007")), f("true", nested(4, "a")), f("does", f("x"), nested(4, "a")), f("true", f("X", f("a"))), f("true", f("a", f("a"), f("a"), f("a"), f("a"), f("a"))), f("true", f("if"))} {
		if got, e := prove.Facts(nil, []api.Term{x}); e != api.ErrInvalid || len(got) > 0 {
			t.Errorf("%v given is %d", x, e)
		}
	}
	if got, e := prove.Facts(nil, []api.Term{f("true", nested(3, "a"))}); e != api.OK || len(got) != 1 {
		t.Error(got, e)
	}
}

// P15.1: up to MaxAtoms atoms hold, the given ones among them, and as many are given, repeated or not.
func TestFactsLimits(t *testing.T) {
	repeated := make([]api.Term, 513)
	for i := range repeated {
		repeated[i] = f("true", f("a"))
	}
	for i, c := range []struct {
		rules string
		given []api.Term
		count int
		want  api.Errno
	}{
		{"", trues(512), 512, api.OK}, {"", trues(513), 0, api.ErrInvalid}, {"", repeated[:512], 1, api.OK}, {"", repeated, 0, api.ErrInvalid}, {"p.", trues(511), 512, api.OK}, {"p.", trues(512), 0, api.ErrTooLarge}, {"p if not true(0).", trues(512), 512, api.OK}, {"p.", repeated[:512], 2, api.OK},
		{"p(X) if true(X).", trues(256), 512, api.OK}, {"p(X) if true(X).", trues(257), 0, api.ErrTooLarge}, {"p(X) if true(X). q if not r.", trues(256), 0, api.ErrTooLarge}, {"p(X) if true(X). q if r.", trues(256), 512, api.OK},
		{"p(X) if true(X). p(Y) if true(X) and true(Y). p(X) if p(X) and true(Y).", trues(256), 512, api.OK},
		{"p(X,Y) if true(X) and true(Y).", trues(22), 22 + 22*22, api.OK}, {"p(X,Y) if true(X) and true(Y).", trues(23), 0, api.ErrTooLarge},
	} {
		if got, e := prove.Facts(read(c.rules), c.given); e != c.want || len(got) != c.count {
			t.Errorf("%d: Facts(%s; %d given) is %d atoms, %d, want %d, %d", i, c.rules, len(c.given), len(got), e, c.count, c.want)
		}
	}
}

// P15.1: the error is that of the first round with one, where a depth that is too great comes before too many atoms.
func TestFactsFirstRound(t *testing.T) {
	const square = "m(X,Y) if true(X) and true(Y). "
	for i, c := range []struct {
		rules string
		given []api.Term
		want  api.Errno
	}{
		{square, trues(23), api.ErrTooLarge},
		{square + "d(f(f(X))) if true(X).", trues(3), api.OK},
		{square + "d(f(X)) if true(f(X)).", append(trues(3), terms("true(f(f(a)))")...), api.OK},
		{square + "d(f(f(X))) if true(f(X)).", append(trues(23), terms("true(f(a))")...), api.ErrTooLarge},
		{square + "d(f(f(X))) if true(X).", append(trues(23), terms("true(f(a))")...), api.ErrDepth},
		{"d(f(f(X))) if true(X). " + square, append(trues(23), terms("true(f(a))")...), api.ErrDepth},
		{square + "d(f(f(X))) if true(X) and not distinct(X,f(a)).", append(trues(23), terms("true(f(a))")...), api.ErrDepth},
		{square + "d(f(f(X))) if true(X) and not distinct(X,f(b)).", append(trues(23), terms("true(f(a))")...), api.ErrTooLarge},
		{"d(f(f(X)),Y) if true(X) and true(Y).", append(trues(23), terms("true(f(f(a)))")...), api.ErrDepth},
		{"d(Y,f(f(X))) if true(X) and true(Y) and distinct(Y,0) and distinct(X,f(f(a))).", append(trues(24), terms("true(f(f(a)))")...), api.ErrTooLarge},
		{"d(f(f(X)),Y) if true(X) and true(Y) and not true(Y).", append(trues(24), terms("true(f(f(a)))")...), api.OK},
		{square + "d(f(f(X))) if e(X). e(f(a)).", trues(23), api.ErrTooLarge}, // e holds one round later
		{"d(f(f(X))) if e(X). e(f(a)) if not z. " + square, trues(23), api.ErrTooLarge},
		{"m(X,Y) if true(X) and true(Y) and not z. d(f(f(X))) if e(X). e(f(a)).", trues(23), api.ErrDepth},
		{"m(X,Y) if true(X) and true(Y) and not z. d(f(f(X))) if e(X) and not z. e(f(a)).", trues(23), api.ErrDepth},
		{"m(X,Y) if true(X) and true(Y) and not z. d(f(f(X))) if e(X) and not y. e(f(a)). y if not z.", trues(23), api.ErrTooLarge},
		{"m(X,Y) if true(X) and true(Y) and not z. d(f(f(X))) if e(X) and not z and not m(0,0). e(f(a)).", trues(23), api.ErrTooLarge},
		{"n(0,1). n(1,2). n(2,3). n(3,4). r(0). r(Y) if r(X) and n(X,Y). m(X,Y) if true(X) and true(Y) and r(3). d(f(f(X))) if r(4) and e(X). e(f(a)).", trues(23), api.ErrTooLarge},
		{"n(0,1). n(1,2). n(2,3). n(3,4). r(0). r(Y) if r(X) and n(X,Y). m(X,Y) if true(X) and true(Y) and r(4). d(f(f(X))) if r(4) and e(X). e(f(a)).", trues(23), api.ErrDepth},
		{"n(0,1). n(1,2). n(2,3). n(3,4). r(0). r(Y) if r(X) and n(X,Y). m(X,Y) if true(X) and true(Y) and r(4). d(f(f(X))) if r(3) and e(X). e(f(a)).", trues(23), api.ErrDepth},
	} {
		if got, e := prove.Facts(read(c.rules), c.given); e != c.want || e != api.OK && len(got) > 0 {
			t.Errorf("%d: Facts(%s; %d given) is %d atoms, %d, want %d", i, c.rules, len(c.given), len(got), e, c.want)
		}
	}
}

// P15.2: the heads of a round
func TestRound(t *testing.T) {
	for _, c := range []struct{ rules, atoms, want string }{
		{"", "p, q(a)", ""}, {"p if not q.", "", "p"}, {"p if not q.", "q", ""}, {"p if not q. q if not p.", "", "p, q"}, {"p if not q. q if not p.", "p", "p"}, {"p if not p.", "", "p"}, {"p if not p.", "p", ""},
		{path, "", "edge(a,b), edge(b,c)"}, {path, "edge(a,b), edge(b,c)", "edge(a,b), edge(b,c), path(a,b), path(b,c)"}, {path, "path(a,b), edge(b,d), edge(b,c)", "edge(a,b), edge(b,c), path(a,c), path(a,d), path(b,c), path(b,d)"},
		{"p(X) if q(X).", "q(b), q(a), q(b), q, q(c,c)", "p(a), p(b)"}, {"n(f(X)) if n(X). n(a).", "n(b)", "n(a), n(f(b))"},
		{"p(X) if true(X) and does(X,Y). q if role(x).", "true(a), does(a,b), init(a), role(x), legal(x,a)", "p(a), q"},
		{"p if distinct(a,b). q if distinct(a,a). r if not distinct(a,b).", "distinct(a,a), distinct(a,b)", "p"}, {"p(X) if q(X) and distinct(X,a).", "q(a), q(b), distinct(c,a)", "p(b)"},
		{"p(X) if q(X) and not r(X). r(X) if q(X) and not p(X).", "q(a), q(b), q(c), r(a), p(b)", "p(b), p(c), r(a), r(c)"},
		{"legal(x,a) if true(b). next(f(X)) if true(X). goal(x,X) if true(X). terminal if true(b).", "true(b)", "terminal, next(f(b)), goal(x,b), legal(x,a)"},
	} {
		got, e := prove.Round(read(c.rules), terms(c.atoms))
		if want := printer.Terms(term.Sort(terms(c.want))); printer.Terms(got) != want || e != api.OK {
			t.Errorf("Round(%s, %s) is %s, %d, want %s", c.rules, c.atoms, printer.Terms(got), e, want)
		}
	}
}

// P15.2: the errors, in their order
func TestRoundErrors(t *testing.T) {
	const square = "m(X,Y) if true(X) and true(Y). "
	const deep = "n(f(X)) if n(X). "
	a := terms("n(f(f(a)))")
	same := make([]api.Term, 513)
	for i := range same {
		same[i] = f("p")
	}
	for i, c := range []struct {
		l     []api.Rule
		atoms []api.Term
		count int
		want  api.Errno
	}{
		{append(read(strings.Repeat("p. ", 128)), api.Rule{}), []api.Term{{}}, 0, api.ErrTooLong}, {read(strings.Repeat("p. ", 128)), nil, 1, api.OK},
		{[]api.Rule{{Head: f("p", f("X"))}, {Head: f("007")}}, []api.Term{{}}, 0, api.ErrUnsafe}, {[]api.Rule{{Head: f("does", f("x"), f("a"))}}, nil, 0, api.ErrKeyword}, {[]api.Rule{{Head: nested(5, "a")}}, nil, 0, api.ErrDepth},
		{read(deep), append(trues(512), a...), 0, api.ErrInvalid}, {nil, trues(513), 0, api.ErrInvalid}, {nil, same, 0, api.ErrInvalid}, {nil, same[1:], 0, api.OK}, {read("p(X) if true(X)."), trues(512), 512, api.OK},
		{read(deep), append(terms("X"), a...), 0, api.ErrInvalid}, {nil, terms("p, 7"), 0, api.ErrInvalid}, {nil, terms("p(X)"), 0, api.ErrInvalid}, {nil, []api.Term{{}}, 0, api.ErrInvalid}, {nil, []api.Term{f("P", f("a"))}, 0, api.ErrInvalid}, {nil, []api.Term{nested(5, "a")}, 0, api.ErrInvalid}, {nil, []api.Term{f("7", f("a"))}, 0, api.ErrInvalid}, {nil, []api.Term{f("not")}, 0, api.ErrInvalid},
		{read("p(X) if f(X)."), []api.Term{nested(4, "a")}, 1, api.OK}, {read("p(f(X)) if f(X)."), []api.Term{nested(4, "a")}, 0, api.ErrDepth},
		{read(deep), a, 0, api.ErrDepth}, {read(square), trues(22), 484, api.OK}, {read(square), trues(23), 0, api.ErrTooLarge}, {read(square + deep), append(trues(23), a...), 0, api.ErrDepth}, {read(deep + square), append(trues(23), a...), 0, api.ErrDepth}, {read(deep + square), append(trues(23), terms("n(f(a)), n(a)")...), 0, api.ErrTooLarge},
		{read(square + "p(X) if true(X). q. r. s. u. v(X) if q(X)."), append(trues(22), terms("q(a), q(b)")...), 512, api.OK}, {read(square + "p(X) if true(X). q. r. s. u. v(X) if q(X)."), append(trues(22), terms("q(a), q(b), q(c)")...), 0, api.ErrTooLarge},
		{read(square), append(trues(22), trues(22)...), 484, api.OK}, {read("m(X,Y) if true(X) and true(Y) and not z. z if not m(0,0). d(f(f(X))) if true(X) and z."), trues(22), 485, api.OK},
	} {
		if got, e := prove.Round(c.l, c.atoms); e != c.want || len(got) != c.count {
			t.Errorf("%d: Round(%.60s; %.60s) is %d atoms, %d, want %d, %d", i, fmt.Sprint(c.l), printer.Terms(c.atoms), len(got), e, c.count, c.want)
		}
	}
}

// P15.3: Answers and Holds, with their errors
func TestAnswers(t *testing.T) {
	const rules = "p(a,b). p(b,b). p(X) if p(X,X). q(X) if p(X,X) and true(X). r(f(X,g(Y))) if p(X,Y). p."
	for _, c := range []struct {
		pattern, want string
		ground        bool
	}{
		{"p(X,X)", "p(b,b)", false}, {"p(X,Y)", "p(a,b), p(b,b)", false}, {"p(a,X)", "p(a,b)", false}, {"p(X,a)", "", false}, {"p(a,b)", "p(a,b)", true}, {"p(b,a)", "", true}, {"p(X)", "p(b)", false}, {"p", "p", true}, {"p(X,Y,Z)", "", false},
		{"q(X)", "q(b)", false}, {"q", "", true}, {"s(X)", "", false}, {"s", "", true}, {"distinct(X,a)", "", false}, {"distinct(a,b)", "", true}, {"true(X)", "true(b), true(c)", false}, {"true(c)", "true(c)", true}, {"does(X,Y)", "does(x,b)", false}, {"does(X,X)", "", false}, {"legal(x,X)", "", false},
		{"r(X)", "r(f(a,g(b))), r(f(b,g(b)))", false}, {"r(f(X,g(X)))", "r(f(b,g(b)))", false}, {"r(f(a,X))", "r(f(a,g(b)))", false}, {"r(f(X))", "", false}, {"r(f(a,g(b)))", "r(f(a,g(b)))", true}, {"r(g(b))", "", true},
	} {
		pattern := terms(c.pattern)[0]
		got, e := prove.Answers(read(rules), terms("true(c), true(b), does(x,b)"), pattern)
		if printer.Terms(got) != c.want || e != api.OK {
			t.Errorf("Answers(%s) is %s, %d, want %s", c.pattern, printer.Terms(got), e, c.want)
		}
		wantError := api.ErrInvalid
		if c.ground {
			wantError = api.OK
		}
		if holds, e := prove.Holds(read(rules), terms("true(c), true(b), does(x,b)"), pattern); holds != (c.ground && c.want != "") || e != wantError {
			t.Errorf("Holds(%s) is %v, %d", c.pattern, holds, e)
		}
	}
	deep, cycle, long := read("n(f(X)) if n(X). n(a)."), read("p if not p."), make([]api.Rule, 129)
	for i, c := range []struct {
		l             []api.Rule
		given         string
		pattern       api.Term
		answers, hold api.Errno
	}{
		{long, "p", f("X"), api.ErrInvalid, api.ErrInvalid}, {long, "p", f("p"), api.ErrTooLong, api.ErrTooLong}, {cycle, "p", f("7"), api.ErrInvalid, api.ErrInvalid}, {cycle, "p", f("p"), api.ErrCycle, api.ErrCycle}, {cycle, "p", f("p", f("X")), api.ErrCycle, api.ErrInvalid},
		{nil, "p", f("p"), api.ErrInvalid, api.ErrInvalid}, {deep, "", f("q"), api.ErrDepth, api.ErrDepth}, {deep, "", api.Term{}, api.ErrInvalid, api.ErrInvalid}, {deep, "", nested(5, "a"), api.ErrInvalid, api.ErrInvalid}, {deep, "", f("p", f("if")), api.ErrInvalid, api.ErrInvalid}, {deep, "", f("P", f("a")), api.ErrInvalid, api.ErrInvalid}, {nil, "", nested(4, "X"), api.OK, api.ErrInvalid}, {nil, "", nested(5, "X"), api.ErrInvalid, api.ErrInvalid},
		{[]api.Rule{{Head: f("p", f("X"))}}, "", f("p"), api.ErrUnsafe, api.ErrUnsafe}, {read(facts("n", 23) + "m(X,Y) if n(X) and n(Y)."), "", f("m", f("1"), f("2")), api.ErrTooLarge, api.ErrTooLarge},
	} {
		if got, e := prove.Answers(c.l, terms(c.given), c.pattern); len(got) > 0 || e != c.answers {
			t.Errorf("%d: Answers is %s, %d, want %d", i, printer.Terms(got), e, c.answers)
		}
		if holds, e := prove.Holds(c.l, terms(c.given), c.pattern); holds || e != c.hold {
			t.Errorf("%d: Holds is %v, %d, want %d", i, holds, e, c.hold)
		}
	}
}

// P15.4
func TestGiven(t *testing.T) {
	for _, c := range []struct{ state, joint, roles, want string }{
		{"", "", "", ""}, {"c", "m, n", "x", "true(c), does(x,m)"}, {"c, a, c, b", "m", "x, y, z", "true(a), true(b), true(c), does(x,m)"}, {"", "m, n, m", "y, x, y", "does(x,n), does(y,m)"}, {"a", "m", "", "true(a)"}, {"a", "", "x", "true(a)"}, {"f(f(f(f(a)))), X, 10, 2", "Y", "7", "true(2), true(10), true(X), true(f(f(f(f(a))))), does(7,Y)"},
	} {
		list := func(s string) []api.Term {
			var l []api.Term
			for _, x := range strings.Split(s, ", ") {
				switch {
				case strings.HasPrefix(x, "f(f"):
					l = append(l, nested(5, "a"))
				case x != "":
					l = append(l, f(x))
				}
			}
			return l
		}
		got := prove.Given(list(c.state), list(c.joint), list(c.roles))
		var texts []string
		for _, x := range got {
			texts = append(texts, term.Text(x))
		}
		if s := strings.Join(texts, ", "); s != c.want {
			t.Errorf("Given(%s; %s; %s) is %s, want %s", c.state, c.joint, c.roles, s, c.want)
		}
	}
	if got := prove.Given([]api.Term{{}, {Name: "", Args: []api.Term{{}}}}, []api.Term{{}}, []api.Term{{}, {}}); len(got) != 3 || term.Text(got[0]) != "true()" || term.Text(got[2]) != "does(,)" {
		t.Error(got)
	}
}

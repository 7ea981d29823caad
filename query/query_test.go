package query_test

import (
	"fmt"
	"strings"
	"testing"

	"gameplayer/api"
	"gameplayer/parser"
	"gameplayer/printer"
	"gameplayer/query"
)

// read reads rules.
func read(s string) []api.Rule {
	l, _, e := parser.Parse(s)
	if e != api.OK {
		panic(s)
	}
	return l
}

// terms reads terms.
func terms(s string) []api.Term {
	l, _, e := parser.Terms(s)
	if e != api.OK {
		panic(s)
	}
	return l
}

// f makes a term.
func f(name string, args ...api.Term) api.Term { return api.Term{Name: name, Args: args} }

// prover makes a prover.
func prover(s string) *query.Prover {
	p, e := query.New(read(s))
	if e != api.OK {
		panic(s)
	}
	return p
}

// trues are the atoms true(f) for the numbers f below n.
func trues(n int) []api.Term {
	var l []api.Term
	for i := range n {
		l = append(l, f("true", f(fmt.Sprint(i))))
	}
	return l
}

// step is a call of Set (of the atoms after a colon) or of Ask, and what is expected then.
type step struct {
	call, want, tables string
	work               int
}

// run makes the calls, and Holds where the pattern is ground.
func run(t *testing.T, p *query.Prover, steps []step) {
	t.Helper()
	for i, c := range steps {
		if given, set := strings.CutPrefix(c.call, ":"); set {
			if e := p.Set(terms(given)); e != api.OK {
				t.Errorf("%d: Set(%s) is %d", i, given, e)
			}
		} else {
			got, e := p.Ask(terms(c.call)[0])
			if printer.Terms(got) != c.want || e != api.OK {
				t.Errorf("%d: Ask(%s) is %s, %d, want %s", i, c.call, printer.Terms(got), e, c.want)
			}
		}
		if tables := strings.Join(p.Tables(), " "); tables != c.tables || p.Work() != c.work {
			t.Errorf("%d: after %s stored are %s, work %d, want %s, %d", i, c.call, tables, p.Work(), c.tables, c.work)
		}
	}
}

// P16.2, P16.3, P16.5: the examples of the chapter
func TestExamples(t *testing.T) {
	run(t, prover("p(X) if q(X) and true(X). q(a). q(b). r if p(a)."), []step{
		{":true(a)", "", "", 0}, {"p(X)", "p(a)", "p q", 2}, {"r", "r", "p q r", 3}, {":true(b)", "", "q", 3}, {"r", "", "p q r", 5},
		{":true(b), does(x,m)", "", "p q r", 5}, {"true(X)", "true(b)", "p q r", 5}, {"s(X)", "", "p q r", 5},
	})
}

// P16.3, P16.5: what is needed is stored and counted, each relation once, whatever the numbers of arguments are.
func TestAsk(t *testing.T) {
	run(t, prover("a if b and not c. c if d(X). c if not e. d(1). d(2,X) if true(X). e if does(x,m). g(X) if g(X). h if i. i if h. i if true(k). l(X) if d(X) and distinct(X,1)."), []step{
		{"b", "", "", 0}, {"distinct(X,Y)", "", "", 0}, {"distinct(1,2)", "", "", 0}, {"does(X,Y)", "", "", 0}, {"true(X)", "", "", 0}, {"role(X)", "", "", 0}, {"b(X)", "", "", 0},
		{"d(X,Y)", "", "d", 1}, {"d(X)", "d(1)", "d", 1}, {"d", "", "d", 1}, {"a", "", "a c d e", 4}, {"c", "c", "a c d e", 4}, {"c(X)", "", "a c d e", 4}, {"g(X)", "", "a c d e g", 5}, {"i", "", "a c d e g h i", 7}, {"h", "", "a c d e g h i", 7}, {"l(2)", "", "a c d e g h i l", 8},
		{":true(k), true(m)", "", "e g", 8}, {"d(2,X)", "d(2,k), d(2,m)", "d e g", 9}, {"h", "h", "d e g h i", 11}, {"true(X)", "true(k), true(m)", "d e g h i", 11}, {"a", "", "a c d e g h i", 13},
		{":true(m), true(k), does(x,m)", "", "d g h i", 13}, {"e", "e", "d e g h i", 14}, {"c", "c", "c d e g h i", 15}, {"does(Y,X)", "does(x,m)", "c d e g h i", 15}, {"does(x,X)", "does(x,m)", "c d e g h i", 15}, {"does(X,X)", "", "c d e g h i", 15},
	})
}

// P16.2: what depends on true, or on does, is no longer stored if that has changed; P16.8: the rest stays.
func TestSet(t *testing.T) {
	const rules = "t if true(a). d if does(x,a). b if t and d. n if not t. o(1). nn if not n and not o(2). u if true(X) and not d."
	all := "b d n nn o t u"
	ask := []step{{"b", "", "", 0}, {"nn", "", "", 0}, {"u", "", "", 0}, {"o(X)", "", "", 0}}
	for _, c := range []struct{ before, after, want string }{
		{"", "", all}, {"", "true(a)", "d o"}, {"", "does(x,a)", "n nn o t"}, {"", "does(y,b)", "n nn o t"}, {"", "true(b), does(x,b)", "o"},
		{"true(a), true(b)", "true(b), true(a)", all}, {"true(a), true(b)", "true(b), true(a), true(b)", all}, {"true(a), true(b)", "true(a)", "d o"}, {"true(a)", "true(a), true(b)", "d o"}, {"true(a)", "true(b)", "d o"}, {"true(a)", "", "d o"},
		{"true(a), does(x,a)", "does(x,a), true(a)", all}, {"true(a), does(x,a)", "does(x,a)", "d o"}, {"true(a), does(x,a)", "true(a)", "n nn o t"}, {"true(a), does(x,a)", "true(a), does(a,x)", "n nn o t"}, {"true(a), does(x,a)", "true(f(a)), does(x,a)", "d o"}, {"true(a), does(x,a)", "", "o"},
	} {
		p := prover(rules)
		if e := p.Set(terms(c.before)); e != api.OK {
			t.Error(e)
		}
		for _, x := range ask {
			if _, e := p.Ask(terms(x.call)[0]); e != api.OK {
				t.Error(e)
			}
		}
		run(t, p, []step{{":" + c.before, "", all, 7}, {":" + c.after, "", c.want, 7}})
	}
}

// P16.1: the errors of New, in their order
func TestNewErrors(t *testing.T) {
	p := strings.Repeat("p. ", 128)
	wrong := []api.Rule{{Head: f("p")}, {Head: f("p", f("X"))}, {Head: f("007")}}
	for i, c := range []struct {
		l    []api.Rule
		want api.Errno
	}{
		{nil, api.OK}, {read(p), api.OK}, {append(read(p), read("p.")...), api.ErrTooLong}, {append(wrong, make([]api.Rule, 126)...), api.ErrTooLong}, {wrong, api.ErrUnsafe}, {wrong[2:], api.ErrName}, {append(read("p if not p."), wrong...), api.ErrUnsafe},
		{read("p if not p."), api.ErrCycle}, {read("p if q. q if not r. r if p."), api.ErrCycle}, {read("p if not q(a). q(b) if p."), api.ErrCycle}, {read("n(f(X)) if n(X). n(a)."), api.OK}, {read("p if not q. q if not r."), api.OK}, {[]api.Rule{{Head: f("true", f("a"))}}, api.ErrKeyword},
	} {
		p, e := query.New(c.l)
		if e != c.want || (p == nil) != (e != api.OK) {
			t.Errorf("%d: New is %v, %d, want %d", i, p, e, c.want)
		}
		if p != nil && (len(p.Tables()) > 0 || p.Work() != 0) {
			t.Errorf("%d: %v, %d", i, p.Tables(), p.Work())
		}
	}
}

// P16.2, P16.3, P16.4: invalid arguments change nothing.
func TestInvalidArguments(t *testing.T) {
	p := prover("p(X) if true(X). q.")
	run(t, p, []step{{":true(a), does(x,b)", "", "", 0}, {"p(X)", "p(a)", "p", 1}})
	deep := f("f", f("f", f("f", f("a"))))
	for _, x := range []api.Term{{}, f("X"), f("7"), f("if"), f("P", f("a")), f("p", f("if")), f("p", api.Term{}), f("p", deep), f("p", f("f", f("f", f("f", f("X"))))), f("7", f("a")), f("p", f("a"), f("a"), f("a"), f("a"), f("a"))} {
		if got, e := p.Ask(x); len(got) > 0 || e != api.ErrInvalid {
			t.Errorf("Ask(%v) is %s, %d", x, printer.Terms(got), e)
		}
		if holds, e := p.Holds(x); holds || e != api.ErrInvalid {
			t.Errorf("Holds(%v) is %v, %d", x, holds, e)
		}
		for _, given := range [][]api.Term{{x}, {f("true", f("c")), x}} {
			if e := p.Set(given); e != api.ErrInvalid {
				t.Errorf("Set(%v) is %d", x, e)
			}
		}
	}
	for _, s := range []string{"q(X)", "p(f(X))", "true(Y)", "distinct(X,a)"} {
		if holds, e := p.Holds(terms(s)[0]); holds || e != api.ErrInvalid {
			t.Errorf("Holds(%s) is %v, %d", s, holds, e)
		}
	}
	for _, s := range []string{"p(a)", "true(X)", "true(f(X))", "true", "true(a,b)", "does(x)", "does(x,a,b)", "init(a)", "distinct(a,b)", "true(c), legal(x,a)"} {
		if e := p.Set(terms(s)); e != api.ErrInvalid {
			t.Errorf("Set(%s) is %d", s, e)
		}
	}
	same := trues(513)
	for i := range same {
		same[i] = f("true", f("a"))
	}
	if p.Set(same) != api.ErrInvalid || p.Set([]api.Term{f("true", deep)}) != api.ErrInvalid {
		t.Error("Set")
	}
	run(t, p, []step{{"true(X)", "true(a)", "p", 1}, {"does(X,Y)", "does(x,b)", "p", 1}, {"p(X)", "p(a)", "p", 1}})
}

// P16.4
func TestHolds(t *testing.T) {
	p := prover("p(X) if true(X) and not q(X). q(a). r if p(b). n(f(X)) if n(X). n(X) if true(X).")
	if e := p.Set(terms("true(a), true(b), does(x,c)")); e != api.OK {
		t.Fatal(e)
	}
	for i, c := range []struct {
		atom   string
		want   bool
		e      api.Errno
		tables string
		work   int
	}{
		{"s", false, api.OK, "", 0}, {"true(a)", true, api.OK, "", 0}, {"true(c)", false, api.OK, "", 0}, {"does(x,c)", true, api.OK, "", 0}, {"distinct(a,b)", false, api.OK, "", 0}, {"n(a)", false, api.ErrDepth, "", 0}, {"q(a)", true, api.OK, "q", 1}, {"q(b)", false, api.OK, "q", 1}, {"q", false, api.OK, "q", 1}, {"p(b)", true, api.OK, "p q", 2}, {"p(a)", false, api.OK, "p q", 2}, {"r", true, api.OK, "p q r", 3}, {"n(f(a))", false, api.ErrDepth, "p q r", 3},
	} {
		holds, e := p.Holds(terms(c.atom)[0])
		if holds != c.want || e != c.e || strings.Join(p.Tables(), " ") != c.tables || p.Work() != c.work {
			t.Errorf("%d: Holds(%s) is %v, %d; stored %v, work %d", i, c.atom, holds, e, p.Tables(), p.Work())
		}
	}
}

// P16.3: errors are those of an evaluation from the beginning, and change nothing.
func TestErrorsOfAsk(t *testing.T) {
	p := prover("n(f(X)) if n(X). n(X) if true(X). m(X,Y) if true(X) and true(Y). ok. both if n(a) and m(a,a). some if ok and not both.")
	ask := func(s string, want api.Errno, tables string, work int) {
		t.Helper()
		if got, e := p.Ask(terms(s)[0]); e != want || e != api.OK && len(got) > 0 || strings.Join(p.Tables(), " ") != tables || p.Work() != work {
			t.Errorf("Ask(%s) is %s, %d, stored %v, work %d", s, printer.Terms(got), e, p.Tables(), p.Work())
		}
	}
	ask("ok", api.OK, "ok", 1)
	ask("n(X)", api.OK, "n ok", 2)
	p.Set(trues(23))
	ask("m(X,Y)", api.ErrTooLarge, "ok", 2)
	ask("n(X)", api.ErrDepth, "ok", 2)
	ask("both", api.ErrTooLarge, "ok", 2) // in the first round; the depth is too great in the third one
	ask("some", api.ErrTooLarge, "ok", 2)
	p.Set(trues(22))
	ask("m(X,Y)", api.OK, "m ok", 3)
	ask("both", api.ErrTooLarge, "m ok", 3) // 22 + 22 + 22 * 22 atoms hold after the first round
	p.Set(trues(10))
	ask("m(X,Y)", api.OK, "m ok", 4)
	ask("both", api.ErrDepth, "m ok", 4)
	ask("ok", api.OK, "m ok", 4)
}

// P16.3, P16.6: given atoms that are not needed count, even if everything that is needed is stored.
func TestGivenAtomsCount(t *testing.T) {
	p := prover("q(a). q(b). r(X) if q(X). s(X) if r(X) and does(x,X).")
	run(t, p, []step{{"q(X)", "q(a), q(b)", "q", 1}, {"r(a)", "r(a)", "q r", 2}})
	for _, c := range []struct {
		given   int
		q, r, s api.Errno
	}{{508, api.OK, api.OK, api.OK}, {509, api.OK, api.ErrTooLarge, api.ErrTooLarge}, {510, api.OK, api.ErrTooLarge, api.ErrTooLarge}, {511, api.ErrTooLarge, api.ErrTooLarge, api.ErrTooLarge}, {0, api.OK, api.OK, api.OK}} {
		if e := p.Set(trues(c.given)); e != api.OK {
			t.Error(e)
		}
		for s, want := range map[string]api.Errno{"q(X)": c.q, "r(X)": c.r, "s(X)": c.s, "true(X)": api.OK} {
			if got, e := p.Ask(terms(s)[0]); e != want || e != api.OK && len(got) > 0 {
				t.Errorf("%d: Ask(%s) is %d atoms, %d, want %d", c.given, s, len(got), e, want)
			}
		}
	}
}

// P16.3, P16.5: a relation of which no atom holds is stored, too, also if no more atoms may hold.
func TestNothingHolds(t *testing.T) {
	p := prover("q(a). q(b). r if not q(a). s if r.")
	if e := p.Set(trues(510)); e != api.OK {
		t.Error(e)
	}
	run(t, p, []step{{"q(X)", "q(a), q(b)", "q", 1}, {"r", "", "q r", 2}, {"s", "", "q r s", 3}, {"s", "", "q r s", 3}})
}

// P16.3: with stored relations a depth that is too great may be found in an earlier round than from the beginning, where there are too many atoms first.
func TestErrorsWithStoredRelations(t *testing.T) {
	chain := "c(0). c(1) if c(0). c(2) if c(1). c(3) if c(2). c(4) if c(3). "
	for _, c := range []struct {
		rules string
		want  api.Errno
	}{
		{chain + "d(f(f(X))) if c(4) and true(X). m(X,Y) if true(X) and true(Y) and c(2). b if d(X) and m(X,X).", api.ErrTooLarge},
		{chain + "d(f(f(X))) if c(2) and true(X). m(X,Y) if true(X) and true(Y) and c(4). b if d(X) and m(X,X).", api.ErrDepth},
		{chain + "d(f(f(X))) if c(3) and true(X). m(X,Y) if true(X) and true(Y) and c(3). b if d(X) and m(X,X).", api.ErrDepth},
		{chain + "d(f(f(X))) if c(2) and true(X) and not a. m(X,Y) if true(X) and true(Y) and c(4). b if d(X) and m(X,X). a if not c(0).", api.ErrTooLarge},
	} {
		for _, first := range []string{"c(X)", "a", "z"} {
			p := prover(c.rules)
			p.Set(append(trues(23), terms("true(f(a))")...))
			if _, e := p.Ask(terms(first)[0]); e != api.OK {
				t.Error(first, e)
			}
			if got, e := p.Ask(f("b")); e != c.want || len(got) > 0 {
				t.Errorf("after %s: Ask is %d, want %d: %s", first, e, c.want, c.rules)
			}
		}
	}
}

// P16.7
func TestEconomy(t *testing.T) {
	p := prover("p(X) if q(X) and true(X). q(a). q(b). r if p(a).")
	run(t, p, []step{
		{":true(a), true(b)", "", "", 0}, {"r", "r", "p q r", 3}, {"r", "r", "p q r", 3}, {"p(X)", "p(a), p(b)", "p q r", 3}, {"p(X)", "p(a), p(b)", "p q r", 3}, {"p(b)", "p(b)", "p q r", 3}, {"q(c)", "", "p q r", 3},
		{":true(b), true(a), true(b)", "", "p q r", 3}, {"r", "r", "p q r", 3}, {":true(a), true(b)", "", "p q r", 3}, {":", "", "q", 3}, {":true(a), true(b)", "", "q", 3}, {"r", "r", "p q r", 5},
	})
}

// P16.5: what no function returned does nothing; neither does a copy.
func TestNoProver(t *testing.T) {
	p := prover("p. q(X) if true(X).")
	run(t, p, []step{{":true(a)", "", "", 0}, {"p", "p", "p", 1}})
	copied := *p
	for i, x := range []*query.Prover{nil, {}, new(query.Prover), &copied} {
		if got, e := x.Ask(f("p")); len(got) > 0 || e != api.ErrInvalid {
			t.Error(i, got, e)
		}
		if holds, e := x.Holds(f("p")); holds || e != api.ErrInvalid {
			t.Error(i, holds, e)
		}
		if e := x.Set(nil); e != api.ErrInvalid {
			t.Error(i, e)
		}
		if len(x.Tables()) > 0 || x.Work() != 0 {
			t.Error(i, x.Tables(), x.Work())
		}
	}
	run(t, p, []step{{"q(X)", "q(a)", "p q", 2}})
}

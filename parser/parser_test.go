package parser_test

import (
	"slices"
	"strings"
	"testing"

	"gameplayer/api"
	"gameplayer/parser"
)

func leaf(s string) api.Term { return api.Term{Name: s} }

func fun(name string, args ...api.Term) api.Term { return api.Term{Name: name, Args: args} }

func yes(t api.Term) api.Literal { return api.Literal{Atom: t} }

func no(t api.Term) api.Literal { return api.Literal{Not: true, Atom: t} }

func rule(head api.Term, body ...api.Literal) api.Rule { return api.Rule{Head: head, Body: body} }

func equal(a, b api.Term) bool { return a.Name == b.Name && slices.EqualFunc(a.Args, b.Args, equal) }

func equalLists(a, b []api.Term) bool { return slices.EqualFunc(a, b, equal) }

func equalLiterals(a, b api.Literal) bool { return a.Not == b.Not && equal(a.Atom, b.Atom) }

func equalRules(a, b api.Rule) bool {
	return equal(a.Head, b.Head) && slices.EqualFunc(a.Body, b.Body, equalLiterals)
}

// repeated is a text n times, with a separator between.
func repeated(s string, n int, separator string) string {
	return strings.TrimSuffix(strings.Repeat(s+separator, n), separator)
}

// readers are the functions of the package; each says how many rules or terms it returned.
var readers = []struct {
	name string
	read func(string) (int, int, api.Errno)
}{
	{"Parse", func(s string) (int, int, api.Errno) {
		l, at, err := parser.Parse(s)
		return len(l), at, err
	}},
	{"Rule", func(s string) (int, int, api.Errno) {
		r, at, err := parser.Rule(s)
		return found(r.Head, len(r.Body)), at, err
	}},
	{"Term", func(s string) (int, int, api.Errno) {
		t, at, err := parser.Term(s)
		return found(t, 0), at, err
	}},
	{"Terms", func(s string) (int, int, api.Errno) {
		l, at, err := parser.Terms(s)
		return len(l), at, err
	}},
}

// found is 0 if the term is the zero value and n is 0, and otherwise 1.
func found(t api.Term, n int) int {
	if t.Name == "" && len(t.Args) == 0 && n == 0 {
		return 0
	}
	return 1
}

const (
	parse = iota
	oneRule
	oneTerm
	someTerms
)

type failure struct {
	source string
	at     int
	err    api.Errno
}

// checkFailures checks that a function returns these errors at these offsets and nothing else.
func checkFailures(t *testing.T, reader int, l []failure) {
	t.Helper()
	for _, c := range l {
		n, at, err := readers[reader].read(c.source)
		if n != 0 || at != c.at || err != c.err {
			t.Errorf("%s(%.60q) returns %d results, %d, %d, not %d, %d", readers[reader].name, c.source, n, at, err, c.at, c.err)
		}
	}
}

// checkCounts checks that a function returns so many rules or terms.
func checkCounts(t *testing.T, reader int, counts map[string]int) {
	t.Helper()
	for source, want := range counts {
		if n, at, err := readers[reader].read(source); n != want || at != 0 || err != api.OK {
			t.Errorf("%s(%.60q) returns %d results, not %d; %d, %d", readers[reader].name, source, n, want, at, err)
		}
	}
}

// P5.2
func TestParse(t *testing.T) {
	x, y, a := leaf("X"), leaf("Y"), leaf("a")
	for _, c := range []struct {
		source string
		want   []api.Rule
	}{
		{"", nil}, {" \n\t\r# p. q", nil},
		{"p.", []api.Rule{rule(leaf("p"))}},
		{"p(X) if q(X) and not r(X). q(a).", []api.Rule{rule(fun("p", x), yes(fun("q", x)), no(fun("r", x))), rule(fun("q", a))}},
		{"b. a. b.", []api.Rule{rule(leaf("b")), rule(leaf("a")), rule(leaf("b"))}},
		{"p if not q.", []api.Rule{rule(leaf("p"), no(leaf("q")))}},
		{"p if r and q and not p and r.", []api.Rule{rule(leaf("p"), yes(leaf("r")), yes(leaf("q")), no(leaf("p")), yes(leaf("r")))}},
		{"p(Y,X,a,0) if q(f(X,g(Y)),12).", []api.Rule{rule(fun("p", y, x, a, leaf("0")), yes(fun("q", fun("f", x, fun("g", y)), leaf("12"))))}},
		{"p#c\n(#(\n X\t,a)if\rnot#.\nq.", []api.Rule{rule(fun("p", x, a), no(leaf("q")))}},
		{"p(a)if not q(X)and r.s.", []api.Rule{rule(fun("p", a), no(fun("q", x)), yes(leaf("r"))), rule(leaf("s"))}},
		{"nota if iff and andy. p-1(If, not1).", []api.Rule{rule(leaf("nota"), yes(leaf("iff")), yes(leaf("andy"))), rule(fun("p-1", leaf("If"), leaf("not1")))}},
		{"role(x). distinct(a, b) if true(9999).", []api.Rule{rule(fun("role", leaf("x"))), rule(fun("distinct", a, leaf("b")), yes(fun("true", leaf("9999"))))}},
		{"p(f(f(a))). p if q(f(f(X,Y,a,0))).", []api.Rule{rule(fun("p", fun("f", fun("f", a)))), rule(leaf("p"), yes(fun("q", fun("f", fun("f", x, y, a, leaf("0"))))))}},
	} {
		if got, at, err := parser.Parse(c.source); !slices.EqualFunc(got, c.want, equalRules) || at != 0 || err != api.OK {
			t.Errorf("Parse(%q) is %v, %d, %d", c.source, got, at, err)
		}
		if len(c.want) != 1 {
			continue
		}
		if got, at, err := parser.Rule(c.source); !equalRules(got, c.want[0]) || at != 0 || err != api.OK {
			t.Errorf("Rule(%q) is %v, %d, %d", c.source, got, at, err)
		}
	}
}

// P5.3
func TestTerms(t *testing.T) {
	for _, c := range []struct {
		source string
		want   []api.Term
	}{
		{"", nil}, {" # a, b\n", nil},
		{"X", []api.Term{leaf("X")}}, {"a", []api.Term{leaf("a")}}, {"0", []api.Term{leaf("0")}}, {"9999", []api.Term{leaf("9999")}},
		{"f(X,g(1))", []api.Term{fun("f", leaf("X"), fun("g", leaf("1")))}},
		{"f ( f (a , b) , # c\n f(c),4 ) ", []api.Term{fun("f", fun("f", leaf("a"), leaf("b")), fun("f", leaf("c")), leaf("4"))}},
		{"f(a,b,c,d)", []api.Term{fun("f", leaf("a"), leaf("b"), leaf("c"), leaf("d"))}},
		{"f(f(f(X)))", []api.Term{fun("f", fun("f", fun("f", leaf("X"))))}},
		{"a, f(X), 3", []api.Term{leaf("a"), fun("f", leaf("X")), leaf("3")}},
		{"a,a,b,a", []api.Term{leaf("a"), leaf("a"), leaf("b"), leaf("a")}},
		{"X,f(f(f(1))),Y", []api.Term{leaf("X"), fun("f", fun("f", fun("f", leaf("1")))), leaf("Y")}},
	} {
		if got, at, err := parser.Terms(c.source); !equalLists(got, c.want) || at != 0 || err != api.OK {
			t.Errorf("Terms(%q) is %v, %d, %d", c.source, got, at, err)
		}
		if len(c.want) != 1 {
			continue
		}
		if got, at, err := parser.Term(c.source); !equal(got, c.want[0]) || at != 0 || err != api.OK {
			t.Errorf("Term(%q) is %v, %d, %d", c.source, got, at, err)
		}
	}
}

// P5.1: an error of Lex is the first one, wherever the text does not follow the grammar
func TestErrorsOfLex(t *testing.T) {
	long := strings.Repeat("a", api.MaxText+1)
	l := []failure{
		{"p(a) . ;", 7, api.ErrSyntax}, {"p) 007", 3, api.ErrName}, {") ) ;", 4, api.ErrSyntax}, {"p(a,b,c,d,e) A-b", 13, api.ErrName},
		{"f(f(f(f(a)))) 10000", 14, api.ErrName}, {"007", 0, api.ErrName}, {"?", 0, api.ErrSyntax}, {"p if if ; 007", 8, api.ErrSyntax},
		{long, 0, api.ErrTooLong}, {strings.Repeat(";", api.MaxText+1), 0, api.ErrTooLong}, {strings.Repeat("p.", api.MaxText/2) + "p", 0, api.ErrTooLong},
		{strings.Repeat("p.", 129) + "_", 258, api.ErrSyntax},
	}
	for i := range readers {
		checkFailures(t, i, l)
	}
}

// P5.1: ErrSyntax of a description
func TestSyntaxErrors(t *testing.T) {
	l := []failure{
		{"P(a).", 0, api.ErrSyntax}, {"7.", 0, api.ErrSyntax}, {"if.", 0, api.ErrSyntax}, {"not p.", 0, api.ErrSyntax}, {"(p).", 0, api.ErrSyntax}, {".", 0, api.ErrSyntax}, {",", 0, api.ErrSyntax}, {" )", 1, api.ErrSyntax},
		{"p", 1, api.ErrSyntax}, {"p # c", 5, api.ErrSyntax}, {"p(", 2, api.ErrSyntax}, {"p(a", 3, api.ErrSyntax}, {"p(a,", 4, api.ErrSyntax}, {"p(a)", 4, api.ErrSyntax}, {"p(f(a)", 6, api.ErrSyntax}, {"p if", 4, api.ErrSyntax}, {"p if not", 8, api.ErrSyntax}, {"p if q", 6, api.ErrSyntax}, {"p if q and ", 11, api.ErrSyntax},
		{"p().", 2, api.ErrSyntax}, {"p(,a).", 2, api.ErrSyntax}, {"p(a,).", 4, api.ErrSyntax}, {"p(a,,b).", 4, api.ErrSyntax}, {"p(a b).", 4, api.ErrSyntax}, {"p(a.", 3, api.ErrSyntax}, {"p(a)).", 4, api.ErrSyntax}, {"p((a)).", 2, api.ErrSyntax}, {"p(a)(b).", 4, api.ErrSyntax},
		{"p(X(a)).", 3, api.ErrSyntax}, {"p(7(a)).", 3, api.ErrSyntax}, {"p(if).", 2, api.ErrSyntax}, {"p(not a).", 2, api.ErrSyntax}, {"p(and).", 2, api.ErrSyntax}, {"p(f().", 4, api.ErrSyntax},
		{"p if.", 4, api.ErrSyntax}, {"p if X.", 5, api.ErrSyntax}, {"p if 1.", 5, api.ErrSyntax}, {"p if if q.", 5, api.ErrSyntax}, {"p if and q.", 5, api.ErrSyntax}, {"p if not not q.", 9, api.ErrSyntax}, {"p if not X.", 9, api.ErrSyntax}, {"p if not.", 8, api.ErrSyntax}, {"p if (q).", 5, api.ErrSyntax},
		{"p if q r.", 7, api.ErrSyntax}, {"p if q, r.", 6, api.ErrSyntax}, {"p if q and.", 10, api.ErrSyntax}, {"p if q and and r.", 11, api.ErrSyntax}, {"p if q not r.", 7, api.ErrSyntax}, {"p if q if r.", 7, api.ErrSyntax}, {"p if q(X) and X.", 14, api.ErrSyntax},
		{"p and q.", 2, api.ErrSyntax}, {"p not q.", 2, api.ErrSyntax}, {"p q.", 2, api.ErrSyntax}, {"p X.", 2, api.ErrSyntax}, {"p, q.", 1, api.ErrSyntax}, {"p(a) X.", 5, api.ErrSyntax},
	}
	checkFailures(t, parse, l)
	checkFailures(t, oneRule, l)
	checkFailures(t, parse, []failure{{"p. .", 3, api.ErrSyntax}, {"p.. q.", 2, api.ErrSyntax}, {"p. q", 4, api.ErrSyntax}, {"p. X.", 3, api.ErrSyntax}, {"p. if q.", 3, api.ErrSyntax}, {"p.\nq.\nr if", 10, api.ErrSyntax}})
	checkFailures(t, oneRule, []failure{{"", 0, api.ErrSyntax}, {" # c", 4, api.ErrSyntax}, {"p. q.", 3, api.ErrSyntax}, {"p..", 2, api.ErrSyntax}, {"p. X", 3, api.ErrSyntax}, {"p. p", 3, api.ErrSyntax}})
}

// P5.1: ErrSyntax of terms
func TestSyntaxErrorsOfTerms(t *testing.T) {
	l := []failure{
		{"f()", 2, api.ErrSyntax}, {"7(a)", 1, api.ErrSyntax}, {"X(a)", 1, api.ErrSyntax}, {"not", 0, api.ErrSyntax}, {"if", 0, api.ErrSyntax}, {"not a", 0, api.ErrSyntax}, {"(a)", 0, api.ErrSyntax}, {".", 0, api.ErrSyntax}, {",", 0, api.ErrSyntax}, {",a", 0, api.ErrSyntax},
		{"f(", 2, api.ErrSyntax}, {"f(a", 3, api.ErrSyntax}, {"f(a,", 4, api.ErrSyntax}, {"f(a,)", 4, api.ErrSyntax}, {"f(a b)", 4, api.ErrSyntax}, {"f(a))", 4, api.ErrSyntax}, {"f(a)(b)", 4, api.ErrSyntax}, {"f(a) # c\n g", 10, api.ErrSyntax},
		{"a.", 1, api.ErrSyntax}, {"a b", 2, api.ErrSyntax}, {"a and b", 2, api.ErrSyntax}, {"X 1", 2, api.ErrSyntax}, {"f(f(f()))", 6, api.ErrSyntax}, {"f(f(f(f())))", 8, api.ErrSyntax},
	}
	checkFailures(t, oneTerm, l)
	checkFailures(t, someTerms, l)
	checkFailures(t, oneTerm, []failure{{"", 0, api.ErrSyntax}, {" ", 1, api.ErrSyntax}, {"#", 1, api.ErrSyntax}, {"a, b", 1, api.ErrSyntax}, {"a,", 1, api.ErrSyntax}})
	checkFailures(t, someTerms, []failure{{"a,", 2, api.ErrSyntax}, {"a,,b", 2, api.ErrSyntax}, {"a, b c", 5, api.ErrSyntax}, {"a, .", 3, api.ErrSyntax}, {"a, if", 3, api.ErrSyntax}, {"a, b.", 4, api.ErrSyntax}, {"f(a), X(a)", 7, api.ErrSyntax}})
}

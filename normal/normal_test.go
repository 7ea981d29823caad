package normal_test

import (
	"slices"
	"strings"
	"testing"

	"gameplayer/api"
	"gameplayer/normal"
	"gameplayer/parser"
	"gameplayer/printer"
)

// read reads a rule.
func read(s string) api.Rule {
	r, _, err := parser.Rule(s)
	if err != api.OK {
		panic(s)
	}
	return r
}

// readAll reads rules.
func readAll(l ...string) []api.Rule {
	var rules []api.Rule
	for _, s := range l {
		rules = append(rules, read(s))
	}
	return rules
}

// show is the text of rules, without line feeds.
func show(l []api.Rule) string {
	var texts []string
	for _, r := range l {
		texts = append(texts, printer.Rule(r))
	}
	return strings.Join(texts, " ")
}

func leaf(s string) api.Term { return api.Term{Name: s} }

func fun(name string, args ...api.Term) api.Term { return api.Term{Name: name, Args: args} }

func equal(a, b api.Term) bool { return a.Name == b.Name && slices.EqualFunc(a.Args, b.Args, equal) }

func equalLiterals(a, b api.Literal) bool { return a.Not == b.Not && equal(a.Atom, b.Atom) }

func equalRules(a, b api.Rule) bool {
	return equal(a.Head, b.Head) && slices.EqualFunc(a.Body, b.Body, equalLiterals)
}

// nested returns a term of a depth with one leaf.
func nested(depth int, name string) api.Term {
	t := leaf(name)
	for range depth - 1 {
		t = fun("f", t)
	}
	return t
}

// ascending are rules in their order; some of them are not printable.
func ascending() []api.Rule {
	l := []api.Rule{{Head: leaf("7")}, {Head: leaf("10")}, {}, {Body: make([]api.Literal, 1)}, {Body: make([]api.Literal, 9)}, {Body: []api.Literal{{Not: true}}}, {Head: leaf("a b")}}
	l = append(l, readAll(
		"p.", "p if a.", "p if a and a.", "p if a and a and a.", "p if a and b.", "p if a and q(X).", "p if a and not a.", "p if a and not b.", "p if b.", "p if b and a.", "p if b and not a.", "p if a(1).", "p if a(X).", "p if b(1).", "p if a(1,1).",
		"p if not a.", "p if not a and a.", "p if not a and not a.", "p if not b.", "p if not b and a.", "p if not a(1).",
		"q.", "q if a.", "q if not z.", "z if a.",
	)...)
	l = append(l, api.Rule{Head: leaf("X")}, api.Rule{Head: leaf("X"), Body: []api.Literal{{Atom: leaf("2")}}}, api.Rule{Head: leaf("X"), Body: []api.Literal{{Atom: leaf("10")}}}, api.Rule{Head: leaf("X"), Body: []api.Literal{{Atom: leaf("Y")}}})
	l = append(l, readAll("a(2).", "a(10).", "a(b).", "a(X).", "a(X) if a(X).", "a(X) if a(Y).", "a(Y).", "a(f(X)).", "b(1).", "b(1) if a.", "a(1,2).", "a(1,X) if not a.")...)
	return append(l, api.Rule{Head: fun("", leaf(""), leaf(""), leaf(""), leaf(""), leaf(""))})
}

// P8.1, P8.6: as all pairs have the order of their places, it is total.
func TestCompare(t *testing.T) {
	l := ascending()
	for i, a := range l {
		for k, b := range l {
			want := max(-1, min(1, i-k))
			if got := normal.Compare(a, b); got != want {
				t.Errorf("%q and %q: %d", printer.Rule(a), printer.Rule(b), got)
			}
		}
	}
}

// P8.1: an empty list may be nil or not (R4)
func TestCompareEmptyLists(t *testing.T) {
	a := api.Rule{Head: leaf("p"), Body: []api.Literal{{Atom: leaf("q")}}}
	b := api.Rule{Head: api.Term{Name: "p", Args: []api.Term{}}, Body: []api.Literal{{Atom: api.Term{Name: "q", Args: []api.Term{}}}}}
	if normal.Compare(a, b) != 0 || normal.Compare(b, a) != 0 {
		t.Error("empty lists of arguments differ")
	}
	a.Body, b.Body = nil, []api.Literal{}
	if normal.Compare(a, b) != 0 || normal.Compare(b, a) != 0 {
		t.Error("empty bodies differ")
	}
}

// P8.2
func TestRule(t *testing.T) {
	for _, c := range [][2]string{
		{"p(B) if q(A,B) and r.", "p(V1) if r and q(V2,V1)."}, {"p if not b and a and a.", "p if a and not b."},
		{"p.", "p."}, {"p(7,a).", "p(7,a)."}, {"p(X).", "p(V1)."}, {"p(Z,Z,A).", "p(V1,V1,V2)."}, {"p(V2,V1).", "p(V1,V2)."}, {"p(V9) if q(V1).", "p(V1) if q(V2)."}, {"p(f(Y),X).", "p(f(V1),V2)."},
		{"p if q(X,Y) and q(Y,X).", "p if q(V1,V2) and q(V2,V1)."}, {"p if q(X,a) and q(Y,X).", "p if q(V1,a) and q(V2,V1)."}, {"p if q(Y,X) and q(X,a).", "p if q(V1,a) and q(V2,V1)."},
		{"p if r(X,Y) and q(Y).", "p if q(V1) and r(V2,V1)."}, {"p if r(X,Y) and q(Y,Y).", "p if q(V1,V1) and r(V2,V1)."}, {"p if r(X,Y) and not q(Y,Y).", "p if r(V1,V2) and not q(V2,V2)."}, {"p if r(Y,Z) and r(X,Y).", "p if r(V1,V2) and r(V2,V3)."}, {"p if r(X,Y) and r(Z,X).", "p if r(V1,V2) and r(V2,V3)."}, {"p if r(X,Y) and r(Z,Y).", "p if r(V1,V2) and r(V3,V2)."},
		{"p(A) if q(A,B) and q(B,A) and q(C,B).", "p(V1) if q(V1,V2) and q(V2,V1) and q(V3,V2)."}, {"p(X) if not q(X) and not q(X) and q(X) and q(X).", "p(V1) if q(V1) and not q(V1)."}, {"p if q(X) and q(Y) and q(X).", "p if q(V1) and q(V2)."},
		{"p if z and y(1) and not a and y and x(X) and not b(2,2) and a(1,1).", "p if y and z and x(V1) and y(1) and a(1,1) and not a and not b(2,2)."}, {"p(X) if q(f(X)) and q(10) and q(X) and q(9) and q(a).", "p(V1) if q(9) and q(10) and q(a) and q(V1) and q(f(V1))."},
		{"p(E) if q(D,C,B,A) and not q(A,B,C,D).", "p(V1) if q(V2,V3,V4,V5) and not q(V5,V4,V3,V2)."}, {"p if a and b and c and d and d and c and b and a.", "p if a and b and c and d."},
	} {
		got, err := normal.Rule(read(c[0]))
		if err != api.OK || printer.Rule(got) != c[1] {
			t.Errorf("%s has the normal form %s, %d", c[0], printer.Rule(got), err)
		}
	}
}

// P8.2: the errors in their order
func TestErrorsOfRule(t *testing.T) {
	a, six := leaf("a"), fun("p", leaf("A"), leaf("B"), leaf("C"), fun("f", leaf("D"), leaf("E"), leaf("F")))
	yes := func(x api.Term, n int) []api.Literal { return slices.Repeat([]api.Literal{{Atom: x}}, n) }
	for _, c := range []struct {
		r   api.Rule
		err api.Errno
	}{
		{api.Rule{}, api.ErrInvalid}, {api.Rule{Head: leaf("X")}, api.ErrInvalid}, {api.Rule{Head: leaf("7")}, api.ErrInvalid}, {api.Rule{Head: leaf("if")}, api.ErrInvalid}, {api.Rule{Head: fun("P", a)}, api.ErrInvalid}, {api.Rule{Head: nested(5, "a")}, api.ErrInvalid}, {api.Rule{Head: nested(4, "a")}, api.OK},
		{api.Rule{Head: a, Body: yes(leaf("X"), 1)}, api.ErrInvalid}, {api.Rule{Head: a, Body: yes(fun("q", leaf("007")), 1)}, api.ErrInvalid}, {api.Rule{Head: a, Body: make([]api.Literal, 1)}, api.ErrInvalid},
		{api.Rule{Head: a, Body: yes(a, 8)}, api.OK}, {api.Rule{Head: a, Body: yes(a, 9)}, api.ErrInvalid}, {api.Rule{Head: six, Body: yes(a, 9)}, api.ErrInvalid}, {api.Rule{Head: six, Body: yes(leaf("X"), 1)}, api.ErrInvalid},
		{api.Rule{Head: six}, api.ErrTooLarge}, {api.Rule{Head: a, Body: yes(six, 8)}, api.ErrTooLarge}, {read("p(A,B,C) if not q(D) and r(E,F)."), api.ErrTooLarge}, {read("p(A,B,C) if q(D) and not r(E,F)."), api.ErrTooLarge}, {read("p(A,B,C) if q(D) and not r(E,C)."), api.OK}, {read("p if q(A,B,C,D) and q(E,A,B,C) and q(D,E,A,B)."), api.OK},
	} {
		got, err := normal.Rule(c.r)
		if err != c.err || err != api.OK && !equalRules(got, api.Rule{}) {
			t.Errorf("Rule of %s is %s, %d, not %d", printer.Rule(c.r), printer.Rule(got), err, c.err)
		}
	}
}

// P8.2
func TestSame(t *testing.T) {
	for _, c := range []struct {
		a, b string
		want bool
	}{
		{"p(X,Y).", "p(Y,X).", true}, {"p(X,Y).", "p(X,X).", false}, {"p(X,X).", "p(Y,Y).", true}, {"p.", "p.", true}, {"p.", "q.", false}, {"p.", "p if a.", false}, {"p(a).", "p(X).", false}, {"p(1).", "p(2).", false},
		{"p if a and b.", "p if b and a.", true}, {"p if a and a.", "p if a.", true}, {"p if a.", "p if not a.", false}, {"p if a and not a.", "p if not a and a and not a.", true}, {"p if a and b and a.", "p if b and a and b.", true},
		{"p(X) if q(X,Y).", "p(Y) if q(Y,X).", true}, {"p(X) if q(X,Y).", "p(Y) if q(X,Y).", false}, {"p(X) if q(X,Y).", "p(X) if q(X,X).", false}, {"p if q(X,Y) and q(Y,Z).", "p if q(C,A) and q(B,C).", true}, {"p if q(X,Y) and q(Y,Z).", "p if q(X,Y) and q(Z,X).", true}, {"p if q(X,Y) and q(Y,Z).", "p if q(X,Y) and q(X,Z).", false}, {"p if q(X) and q(Y).", "p if q(X).", false},
	} {
		if got, err := normal.Same(read(c.a), read(c.b)); got != c.want || err != api.OK {
			t.Errorf("Same of %s and %s is %v, %d", c.a, c.b, got, err)
		}
		if got, err := normal.Same(read(c.b), read(c.a)); got != c.want || err != api.OK {
			t.Errorf("Same of %s and %s is %v, %d", c.b, c.a, got, err)
		}
	}
	good, bad, large := read("p."), api.Rule{Head: leaf("X")}, read("p(A,B,C) if q(D,E,F).")
	for _, c := range []struct {
		a, b api.Rule
		err  api.Errno
	}{{bad, good, api.ErrInvalid}, {good, bad, api.ErrInvalid}, {bad, bad, api.ErrInvalid}, {large, good, api.ErrTooLarge}, {good, large, api.ErrTooLarge}, {large, large, api.ErrTooLarge}, {bad, large, api.ErrInvalid}, {large, bad, api.ErrTooLarge}} {
		if got, err := normal.Same(c.a, c.b); got || err != c.err {
			t.Errorf("Same of %s and %s is %v, %d, not %d", printer.Rule(c.a), printer.Rule(c.b), got, err, c.err)
		}
	}
}

// P8.3
func TestRules(t *testing.T) {
	for _, c := range []struct {
		l    []api.Rule
		want string
	}{
		{nil, ""}, {[]api.Rule{}, ""}, {readAll("p."), "p."}, {readAll("q.", "p.", "q."), "p. q."},
		{readAll("q(X).", "p(Y) if q(Y).", "q(Z)."), "p(V1) if q(V1). q(V1)."},
		{readAll("p(10).", "p if b.", "p(X) if a.", "p(9).", "p if not a.", "p.", "p(X)."), "p. p if b. p if not a. p(9). p(10). p(V1). p(V1) if a."},
		{readAll("p(X,Y) if q(Y).", "p(X,Y) if q(X).", "p(Y,X) if q(Y) and q(Y)."), "p(V1,V2) if q(V1). p(V1,V2) if q(V2)."},
		{slices.Repeat(readAll("p(X).", "p(Y)."), 64), "p(V1)."},
	} {
		got, err := normal.Rules(c.l)
		if show(got) != c.want || err != api.OK {
			t.Errorf("%s has the normal form %s, %d", show(c.l), show(got), err)
		}
	}
}

// P8.3: the length of the text is not limited.
func TestRulesOfLongText(t *testing.T) {
	var l []api.Rule
	full := slices.Repeat([]api.Term{leaf("abcdefghijklmnop")}, 4)
	for i := range api.MaxRules {
		l = append(l, api.Rule{Head: fun("p", leaf(string(rune('a'+i/16))), leaf(string(rune('a'+i%16)))), Body: slices.Repeat([]api.Literal{{Not: true, Atom: fun("q", full...)}}, 8)})
		l[i].Body[i%8].Atom.Name = "p"
	}
	if _, err := printer.Rules(l); err != api.ErrTooLong {
		t.Fatal("the text is not too long")
	}
	if got, err := normal.Rules(l); len(got) != api.MaxRules || len(got[0].Body) != 2 || err != api.OK {
		t.Error(len(got), err)
	}
}

// P8.3: the errors in their order
func TestErrorsOfRules(t *testing.T) {
	good, bad, large := read("p."), api.Rule{Head: leaf("X")}, read("p(A,B,C) if q(D,E,F).")
	full, long := slices.Repeat([]api.Rule{good}, api.MaxRules), slices.Repeat([]api.Rule{good}, api.MaxRules+1)
	badLong := slices.Concat(full, []api.Rule{bad})
	lists := []struct {
		l   []api.Rule
		err api.Errno
	}{
		{nil, api.OK}, {full, api.OK}, {long, api.ErrTooLong}, {badLong, api.ErrTooLong}, {make([]api.Rule, 129), api.ErrTooLong}, {make([]api.Rule, 128), api.ErrInvalid}, {badLong[1:], api.ErrInvalid},
		{[]api.Rule{bad}, api.ErrInvalid}, {[]api.Rule{large}, api.ErrTooLarge}, {[]api.Rule{good, bad, large}, api.ErrInvalid}, {[]api.Rule{good, large, bad}, api.ErrTooLarge}, {[]api.Rule{{}, good}, api.ErrInvalid},
	}
	for i, a := range lists {
		if got, err := normal.Rules(a.l); err != a.err || err != api.OK && len(got) > 0 {
			t.Errorf("Rules of list %d is %s, %d, not %d", i, show(got), err, a.err)
		}
		for k, b := range lists {
			want := a.err
			if want == api.OK {
				want = b.err
			}
			if got, err := normal.Equal(a.l, b.l); err != want || got != (want == api.OK && i == k) {
				t.Errorf("Equal of lists %d and %d is %v, %d, not %d", i, k, got, err, want)
			}
		}
	}
}

// P8.3
func TestEqual(t *testing.T) {
	for _, c := range []struct {
		a, b []api.Rule
		want bool
	}{
		{nil, []api.Rule{}, true}, {nil, readAll("p."), false}, {readAll("p.", "q."), readAll("q.", "p."), true}, {readAll("p.", "p."), readAll("p."), true}, {readAll("p.", "q."), readAll("p."), false}, {readAll("p.", "q."), readAll("p.", "r."), false},
		{readAll("q(X).", "p(Y) if q(Y).", "q(Z)."), readAll("p(A) if q(A) and q(A).", "q(B)."), true}, {readAll("p(X,Y) if q(X).", "p(X,Y) if q(Y)."), readAll("p(X,Y) if q(Y).", "p(Y,X) if q(Y)."), true}, {readAll("p(X,Y) if q(X)."), readAll("p(X,Y) if q(Y)."), false}, {readAll("p if a."), readAll("p if not a."), false},
	} {
		if got, err := normal.Equal(c.a, c.b); got != c.want || err != api.OK {
			t.Errorf("Equal of %s and %s is %v, %d", show(c.a), show(c.b), got, err)
		}
		if got, err := normal.Equal(c.b, c.a); got != c.want || err != api.OK {
			t.Errorf("Equal of %s and %s is %v, %d", show(c.b), show(c.a), got, err)
		}
	}
}

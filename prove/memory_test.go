package prove_test

import (
	"fmt"
	"slices"
	"strings"
	"testing"

	"gameplayer/api"
	"gameplayer/printer"
	"gameplayer/prove"
	"gameplayer/term"
)

// roomyTerms copies terms so that all their lists have spare capacity.
func roomyTerms(l []api.Term) []api.Term {
	list := make([]api.Term, 0, len(l)+2)
	for _, t := range l {
		list = append(list, api.Term{Name: t.Name, Args: roomyTerms(t.Args)})
	}
	return list
}

// roomyRules does the same to rules.
func roomyRules(l []api.Rule) []api.Rule {
	list := make([]api.Rule, 0, len(l)+2)
	for _, r := range l {
		x := api.Rule{Head: roomyTerms([]api.Term{r.Head})[0], Body: make([]api.Literal, 0, len(r.Body)+2)}
		for _, y := range r.Body {
			x.Body = append(x.Body, api.Literal{Not: y.Not, Atom: roomyTerms([]api.Term{y.Atom})[0]})
		}
		list = append(list, x)
	}
	return list
}

// show shows terms with what their lists have beyond their ends.
func show(l []api.Term) string {
	text := fmt.Sprint(len(l))
	for _, t := range l[:cap(l)] {
		text += " " + t.Name + "(" + show(t.Args) + ")"
	}
	return text
}

// showRules does the same for rules.
func showRules(l []api.Rule) string {
	text := fmt.Sprint(len(l))
	for _, r := range l[:cap(l)] {
		text += show([]api.Term{r.Head})
		for _, y := range r.Body[:cap(r.Body)] {
			text += fmt.Sprint(y.Not) + show([]api.Term{y.Atom})
		}
	}
	return text
}

// spoil changes everything that terms and their spare capacity reach.
func spoil(l []api.Term) {
	for i, t := range l[:cap(l)] {
		spoil(t.Args)
		l[:cap(l)][i] = api.Term{Name: "spoilt"}
	}
}

// newMemory checks that the terms of a result share no memory with one another.
func newMemory(t *testing.T, got []api.Term, want string) {
	t.Helper()
	texts := strings.Split(want, "; ")
	if len(texts) != len(got) {
		t.Fatalf("%s, want %s", printer.Terms(got), want)
	}
	for i := range got {
		if s := term.Text(got[i]); s != texts[i] {
			t.Errorf("%s, want %s", s, texts[i])
		}
		spoil(got[i].Args)
	}
	spoil(got)
}

const mixed = "p(f(a,X)) if true(f(X,X)) and not q(f(a,X)) and distinct(X,f(c)). q(X) if does(x,X) and not distinct(X,f(a,b)). r(f(f(a))). s(X,X) if r(f(X))."

// R5: arguments are not modified, nor is their spare capacity; results share no memory with them, and no two lists of a result do.
func TestMemory(t *testing.T) {
	l := roomyRules(read(mixed))
	given := roomyTerms(terms("true(f(f(b),f(b))), does(x,f(a,b)), true(f(b,b)), true(f(f(c),f(c)))"))
	atoms := roomyTerms(terms("r(f(b)), true(f(f(b),f(b))), q(f(a,b)), true(f(b,b))"))
	pattern := roomyTerms(terms("p(f(X,Y))"))[0]
	state, joint, roles := roomyTerms(terms("f(a), g(b,c), f(a)")), roomyTerms(terms("f(f(b)), m")), roomyTerms(terms("x, y, z"))
	rules, before := showRules(l), show(given)+show(atoms)+show(pattern.Args)+show(state)+show(joint)+show(roles)
	for range 2 {
		got, _ := prove.Facts(l, given)
		newMemory(t, got, "p(f(a,f(b))); q(f(a,b)); r(f(f(a))); true(f(b,b)); true(f(f(b),f(b))); true(f(f(c),f(c))); does(x,f(a,b)); s(f(a),f(a))")
		got, _ = prove.Round(l, atoms)
		newMemory(t, got, "p(f(a,f(b))); r(f(f(a))); s(b,b)")
		got, _ = prove.Answers(l, given, pattern)
		newMemory(t, got, "p(f(a,f(b)))")
		prove.Holds(l, given, atoms[0])
		newMemory(t, prove.Given(state, joint, roles), "true(f(a)); true(g(b,c)); does(x,f(f(b))); does(y,m)")
		if showRules(l) != rules || show(given)+show(atoms)+show(pattern.Args)+show(state)+show(joint)+show(roles) != before {
			t.Fatal("arguments have changed")
		}
	}
}

// R1: any values
func TestAnyValues(t *testing.T) {
	deep := f("a")
	for range 1 << 16 {
		deep = f("f", deep)
	}
	wide := f("true", slices.Repeat([]api.Term{f("a")}, 1<<16)...)
	odd := []api.Term{{}, f("X"), f("10"), f("007"), f("p"), f("P"), f("true"), f("true", f("X")), f("true", api.Term{}), f("does", f("x")), f("X", f("a")), f("", f("b")), f("distinct", f("a"), f("b")), wide, f("2", f("2")), f("if"), deep, f("true", deep)}
	l := read("p(X) if q(X) and true(X). q(X) if true(X). s if p(2) and p(10). next(X) if does(x,X). legal(x,X) if true(X) and distinct(X,a).")
	for _, x := range odd {
		for _, y := range odd {
			prove.Facts(l, []api.Term{x, y})
			prove.Round(l, []api.Term{x, y})
			prove.Holds(l, []api.Term{x}, y)
			prove.Answers(l, []api.Term{x}, y)
			r := api.Rule{Head: x, Body: []api.Literal{{Atom: y}, {Not: true, Atom: x}}}
			prove.Facts([]api.Rule{r}, nil)
			prove.Round([]api.Rule{r}, nil)
			if got := prove.Given([]api.Term{x}, []api.Term{y}, []api.Term{x}); len(got) != 2 {
				t.Error(len(got))
			}
		}
	}
	if _, e := prove.Facts(l, []api.Term{f("true", deep)}); e != api.ErrInvalid {
		t.Error(e)
	}
	if _, e := prove.Facts([]api.Rule{{Head: deep}}, nil); e != api.ErrDepth {
		t.Error(e)
	}
	if _, e := prove.Facts(make([]api.Rule, 1<<20), make([]api.Term, 1<<20)); e != api.ErrTooLong {
		t.Error(e)
	}
	if _, e := prove.Round(nil, make([]api.Term, 1<<20)); e != api.ErrInvalid {
		t.Error(e)
	}
	many := prove.Given(slices.Repeat([]api.Term{f("a"), f("b")}, 1<<16), nil, make([]api.Term, 1<<16))
	if printer.Terms(many) != "true(a), true(b)" {
		t.Error(len(many))
	}
}

// R4: empty lists may be nil or not.
func TestEmptyLists(t *testing.T) {
	for _, l := range [][]api.Rule{nil, {}, {{Head: api.Term{Name: "p", Args: []api.Term{}}, Body: []api.Literal{}}}} {
		for _, given := range [][]api.Term{nil, {}} {
			got, e := prove.Facts(l, given)
			again, f := prove.Round(l, given)
			if len(got) != len(l) || e != api.OK || len(again) != len(l) || f != api.OK {
				t.Error(got, e, again, f)
			}
			holds, e := prove.Holds(l, given, api.Term{Name: "p", Args: []api.Term{}})
			if holds != (len(l) > 0) || e != api.OK {
				t.Error(holds, e)
			}
		}
	}
	if got := prove.Given([]api.Term{}, []api.Term{}, nil); len(got) > 0 {
		t.Error(got)
	}
}

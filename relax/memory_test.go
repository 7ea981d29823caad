package relax_test

import (
	"fmt"
	"slices"
	"strings"
	"testing"

	"gameplayer/api"
	"gameplayer/printer"
	"gameplayer/relax"
)

// roomyTerms copies terms so that all their lists have spare capacity.
func roomyTerms(l []api.Term) []api.Term {
	list := make([]api.Term, 0, len(l)+2)
	for _, t := range l {
		list = append(list, api.Term{Name: t.Name, Args: roomyTerms(t.Args)})
	}
	return list
}

// roomyRules does the same to rules.
func roomyRules(l []api.Rule) []api.Rule {
	list := make([]api.Rule, 0, len(l)+2)
	for _, r := range l {
		x := api.Rule{Head: roomyTerms([]api.Term{r.Head})[0], Body: make([]api.Literal, 0, len(r.Body)+2)}
		for _, y := range r.Body {
			x.Body = append(x.Body, api.Literal{Not: y.Not, Atom: roomyTerms([]api.Term{y.Atom})[0]})
		}
		list = append(list, x)
	}
	return list
}

// show shows terms with what their lists have beyond their ends.
func show(l []api.Term) string {
	text := fmt.Sprint(len(l))
	for _, t := range l[:cap(l)] {
		text += " " + t.Name + "(" + show(t.Args) + ")"
	}
	return text
}

// showRules does the same for rules.
func showRules(l []api.Rule) string {
	text := fmt.Sprint(len(l))
	for _, r := range l[:cap(l)] {
		text += show([]api.Term{r.Head})
		for _, y := range r.Body[:cap(r.Body)] {
			text += fmt.Sprint(y.Not) + show([]api.Term{y.Atom})
		}
	}
	return text
}

const mixed = "role(x). init(g(a,f(b))). legal(x,g(Y,Y)) if true(g(X,Y)). next(Y) if does(X,Y) and not true(Y) and distinct(X,Y). p(h(f(c))). sees(x,f(X)) if does(x,g(X,Y)). "

// games are descriptions with terms of all kinds.
func games() [][]api.Rule {
	return [][]api.Rule{roomyRules(read(mixed)), roomyRules(read(lamp)), roomyRules(read("role(x). p(a). p(f(X)) if p(X).")), roomyRules(read(facts("n", 30) + "role(x). m(X,Y) if n(X) and n(Y)."))}
}

// R5: arguments are not modified, nor is their spare capacity.
func TestArgumentsStay(t *testing.T) {
	atoms := roomyTerms(terms("true(g(a,f(b))), true(b), does(x,g(a,a)), init(f(f(a))), sees(x,f(b)), legal(x,f(a)), true(b), p(h(f(b)))"))
	before := show(atoms)
	role := roomyTerms([]api.Term{f("x")})
	for i, l := range games() {
		rules := showRules(l)
		relax.Atoms(l)
		relax.Round(l, atoms)
		relax.Bases(atoms)
		relax.Moves(atoms, role[0])
		relax.Percepts(atoms, role[0])
		if showRules(l) != rules || show(atoms) != before || len(role) != 1 {
			t.Error(i)
		}
	}
}

// spoil changes everything that terms and their spare capacity reach.
func spoil(l []api.Term) {
	for i, t := range l[:cap(l)] {
		spoil(t.Args)
		l[:cap(l)][i] = api.Term{Name: "spoilt"}
	}
}

// newMemory checks that the terms of a result share no memory with one another.
func newMemory(t *testing.T, got []api.Term, want string) {
	t.Helper()
	texts := strings.SplitAfter(want, "; ")
	if len(texts) != len(got) {
		t.Fatalf("%s, want %s", printer.Terms(got), want)
	}
	for i := range got {
		if s := printer.Terms(got[i : i+1]); s != strings.TrimSuffix(texts[i], "; ") {
			t.Errorf("%s, want %s", s, texts[i])
		}
		spoil(got[i].Args)
	}
	spoil(got)
}

// R5: results share no memory with arguments, and no two lists of a result do.
func TestResultsAreNewMemory(t *testing.T) {
	l := games()[0]
	rules := showRules(l)
	atoms := roomyTerms(terms("init(f(f(a))), does(x,g(a,a)), true(g(f(b),f(b))), legal(x,f(a)), sees(x,f(b)), true(f(b))"))
	before := show(atoms)
	for range 2 {
		got, _ := relax.Round(l, atoms)
		newMemory(t, got, "init(f(f(a))); init(g(a,f(b))); next(g(a,a)); p(h(f(c))); role(x); true(f(b)); true(f(f(a))); true(g(f(b),f(b))); does(x,f(a)); does(x,g(a,a)); legal(x,f(a)); legal(x,g(f(b),f(b))); sees(x,f(a)); sees(x,f(b))")
		newMemory(t, relax.Bases(atoms), "f(b); g(f(b),f(b))")
		newMemory(t, relax.Moves(atoms, f("x")), "g(a,a)")
		newMemory(t, relax.Percepts(atoms, f("x")), "f(b)")
		got, e := relax.Atoms(l)
		if e != api.OK || len(got) < 8 {
			t.Fatal(got, e)
		}
		newMemory(t, got, strings.ReplaceAll(printer.Terms(slices.Clone(got)), "), ", "); "))
		if showRules(l) != rules || show(atoms) != before {
			t.Fatal("arguments have changed")
		}
	}
}

// R1: atoms that are none
func TestAnyAtoms(t *testing.T) {
	deep := f("a")
	for range 1 << 16 {
		deep = f("f", deep)
	}
	wide := f("true", slices.Repeat([]api.Term{f("a")}, 1000)...)
	odd := []api.Term{{}, f("X"), f("10"), f("2"), f("007"), f("p"), f("P"), f("true"), f("true", f("X")), f("true", api.Term{}), f("init", f("Y")), f("init", api.Term{}), f("legal", f("X"), f("")), f("does", f("x")), f("X", f("a")), f("", f("b")), f("distinct", f("a"), f("b")), wide, f("2", f("2")), f("if")}
	l := read("role(x). p(X) if q(X) and true(X). q(X) if true(X). s if p(2) and p(10). next(X) if does(x,X). legal(x,X) if true(X) and distinct(X,a).")
	for i := range odd {
		for n := range len(odd) - i {
			got, e := relax.Round(l, odd[i:i+n+1])
			if e == api.OK && len(got) < n {
				t.Fatal(i, n, got)
			}
		}
	}
	relax.Bases(odd)
	relax.Moves(odd, f("X"))
	relax.Percepts(odd, api.Term{})
	if _, e := relax.Round(l, append(odd, deep)); e != api.ErrDepth {
		t.Error(e)
	}
	if _, e := relax.Round(l, []api.Term{f("true", deep), f("init", deep)}); e != api.ErrDepth {
		t.Error(e)
	}
	if got := relax.Bases([]api.Term{f("true", deep)}); len(got) != 1 {
		t.Error(len(got))
	}
}

// R1: very many atoms
func TestManyAtoms(t *testing.T) {
	l := read("role(x). p(f(X)) if true(X). q(X) if true(X) and true(Y) and does(x,Y).")
	var atoms []api.Term
	for i := range 1 << 16 {
		atoms = append(atoms, f("true", f("n", f(fmt.Sprint(i%9000)), f(fmt.Sprint(i/9000)))), f("does", f("x"), f("m")))
	}
	if _, e := relax.Round(l, atoms); e != api.ErrTooLarge {
		t.Error(e)
	}
	if _, e := relax.Round(l, append(atoms, f("true", f("f", f("f", f("a")))))); e != api.ErrDepth {
		t.Error(e)
	}
	if got := relax.Bases(atoms); len(got) != 1<<16 {
		t.Error(len(got))
	}
	if got := relax.Moves(atoms, f("x")); len(got) != 1 {
		t.Error(len(got))
	}
}

// R1, R4: nothing
func TestNothing(t *testing.T) {
	for _, l := range [][]api.Rule{nil, {}} {
		if got, e := relax.Atoms(l); len(got) != 0 || e != api.ErrRole {
			t.Error(got, e)
		}
		if got, e := relax.Round(l, nil); len(got) != 0 || e != api.ErrRole {
			t.Error(got, e)
		}
	}
	l := []api.Rule{{Head: api.Term{Name: "role", Args: []api.Term{{Name: "x", Args: []api.Term{}}}}, Body: []api.Literal{}}}
	if got, e := relax.Round(l, []api.Term{}); printer.Terms(got) != "role(x)" || e != api.OK {
		t.Error(got, e)
	}
}

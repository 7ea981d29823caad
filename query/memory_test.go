package query_test

import (
	"fmt"
	"slices"
	"testing"

	"gameplayer/api"
	"gameplayer/printer"
	"gameplayer/query"
)

// roomyTerms copies terms so that all their lists have spare capacity.
func roomyTerms(l []api.Term) []api.Term {
	list := make([]api.Term, 0, len(l)+2)
	for _, t := range l {
		list = append(list, api.Term{Name: t.Name, Args: roomyTerms(t.Args)})
	}
	return list
}

// roomyRules does the same to rules.
func roomyRules(l []api.Rule) []api.Rule {
	list := make([]api.Rule, 0, len(l)+2)
	for _, r := range l {
		x := api.Rule{Head: roomyTerms([]api.Term{r.Head})[0], Body: make([]api.Literal, 0, len(r.Body)+2)}
		for _, y := range r.Body {
			x.Body = append(x.Body, api.Literal{Not: y.Not, Atom: roomyTerms([]api.Term{y.Atom})[0]})
		}
		list = append(list, x)
	}
	return list
}

// show shows terms with what their lists have beyond their ends.
func show(l []api.Term) string {
	text := fmt.Sprint(len(l))
	for _, t := range l[:cap(l)] {
		text += " " + t.Name + "(" + show(t.Args) + ")"
	}
	return text
}

// showRules does the same for rules.
func showRules(l []api.Rule) string {
	text := fmt.Sprint(len(l))
	for _, r := range l[:cap(l)] {
		text += show([]api.Term{r.Head})
		for _, y := range r.Body[:cap(r.Body)] {
			text += fmt.Sprint(y.Not) + show([]api.Term{y.Atom})
		}
	}
	return text
}

// spoil changes everything that terms and their spare capacity reach.
func spoil(l []api.Term) {
	for i, t := range l[:cap(l)] {
		spoil(t.Args)
		l[:cap(l)][i] = api.Term{Name: "spoilt"}
	}
}

// R5: arguments are neither modified nor retained, and results share no memory with what is kept.
func TestMemory(t *testing.T) {
	l := roomyRules(read("p(f(a,X)) if true(f(X,X)) and not q(f(a,X)) and distinct(X,f(c)). q(X) if does(x,X) and not distinct(X,f(a,b)). r(f(f(a))). s(X,X) if r(f(X)) and true(Y)."))
	given := roomyTerms(terms("true(f(f(b),f(b))), does(x,f(a,b)), true(f(b,b)), true(f(f(c),f(c)))"))
	pattern := roomyTerms(terms("p(f(X,Y))"))
	rules, atoms, asked := showRules(l), show(given), show(pattern)
	p, e := query.New(l)
	if e != api.OK || p.Set(given) != api.OK {
		t.Fatal(e)
	}
	p.Ask(pattern[0])
	p.Holds(given[0])
	if showRules(l) != rules || show(given) != atoms || show(pattern) != asked {
		t.Fatal("arguments have changed")
	}
	for i := range l {
		spoil([]api.Term{l[i].Head})
		for j := range l[i].Body {
			spoil(l[i].Body[j].Atom.Args)
		}
		spoil(l[i].Head.Args)
		l[i] = api.Rule{}
	}
	spoil(given)
	for range 3 {
		for _, c := range [][2]string{{"p(X)", "p(f(a,f(b)))"}, {"q(X)", "q(f(a,b))"}, {"s(X,Y)", "s(f(a),f(a))"}, {"true(X)", "true(f(b,b)), true(f(f(b),f(b))), true(f(f(c),f(c)))"}, {"does(X,Y)", "does(x,f(a,b))"}} {
			got, e := p.Ask(terms(c[0])[0])
			if printer.Terms(got) != c[1] || e != api.OK {
				t.Errorf("Ask(%s) is %s, %d, want %s", c[0], printer.Terms(got), e, c[1])
			}
			spoil(got)
		}
		tables := p.Tables()
		if !slices.Equal(tables, []string{"p", "q", "r", "s"}) {
			t.Error(tables)
		}
		for i := range tables[:cap(tables)] {
			tables[:cap(tables)][i] = "spoilt"
		}
	}
}

// R1: any values
func TestAnyValues(t *testing.T) {
	deep := f("a")
	for range 1 << 16 {
		deep = f("f", deep)
	}
	wide := f("true", slices.Repeat([]api.Term{f("a")}, 1<<16)...)
	odd := []api.Term{{}, f("X"), f("10"), f("007"), f("p"), f("P"), f("true"), f("true", f("X")), f("true", api.Term{}), f("does", f("x")), f("X", f("a")), f("", f("b")), f("distinct", f("a"), f("b")), wide, f("2", f("2")), f("if"), deep, f("true", deep)}
	p := prover("p(X) if q(X) and true(X). q(X) if true(X). s if p(2) and p(10).")
	for _, x := range odd {
		for _, y := range odd {
			query.New([]api.Rule{{Head: x, Body: []api.Literal{{Atom: y}, {Not: true, Atom: x}}}})
			p.Set([]api.Term{x, y})
		}
		p.Ask(x)
		p.Holds(x)
	}
	if _, e := query.New(make([]api.Rule, 1<<20)); e != api.ErrTooLong {
		t.Error(e)
	}
	if e := p.Set(make([]api.Term, 1<<20)); e != api.ErrInvalid {
		t.Error(e)
	}
}

// R4: empty lists may be nil or not.
func TestEmptyLists(t *testing.T) {
	for _, l := range [][]api.Rule{nil, {}, {{Head: api.Term{Name: "p", Args: []api.Term{}}, Body: []api.Literal{}}}} {
		p, e := query.New(l)
		if e != api.OK || p.Set(nil) != api.OK || p.Set([]api.Term{}) != api.OK {
			t.Fatal(e)
		}
		got, e := p.Ask(api.Term{Name: "p", Args: []api.Term{}})
		if len(got) != len(l) || e != api.OK || len(p.Tables()) != len(l) {
			t.Error(got, e, p.Tables())
		}
	}
}

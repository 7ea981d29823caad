package normal_test

import (
	"reflect"
	"slices"
	"testing"

	"gameplayer/api"
	"gameplayer/normal"
)

// roomy copies a term, with lists that have spare capacity.
func roomy(x api.Term) api.Term {
	l := make([]api.Term, 0, len(x.Args)+2)
	for _, a := range x.Args {
		l = append(l, roomy(a))
	}
	return api.Term{Name: x.Name, Args: l}
}

// roomyRules are rules whose lists have spare capacity, some of them not printable.
func roomyRules() []api.Rule {
	l := make([]api.Rule, 0, 9)
	for _, r := range append(readAll("p(Z,f(Y)) if q(Z,a) and q(Y,g(1)) and q(Z,a) and not b and a.", "p if z and q(f(1)) and q(f(1)) and a.", "a."), api.Rule{Head: leaf("X")}) {
		body := make([]api.Literal, 0, len(r.Body)+2)
		for _, x := range r.Body {
			body = append(body, api.Literal{Not: x.Not, Atom: roomy(x.Atom)})
		}
		l = append(l, api.Rule{Head: roomy(r.Head), Body: body})
	}
	return l
}

// scribble overwrites all that rules can reach, with spare capacity.
func scribble(l []api.Rule) {
	var terms func(l []api.Term)
	terms = func(l []api.Term) {
		for i := range l {
			terms(l[i].Args[:cap(l[i].Args)])
			l[i] = leaf("scribble")
		}
	}
	for i := range l[:cap(l)] {
		r := &l[:cap(l)][i]
		terms(r.Head.Args[:cap(r.Head.Args)])
		for k := range r.Body[:cap(r.Body)] {
			atom := &r.Body[:cap(r.Body)][k].Atom
			terms(atom.Args[:cap(atom.Args)])
			atom.Name = "scribble"
		}
		r.Head.Name = "scribble"
	}
}

// R5: arguments are not modified, nor is their spare capacity, and results are new memory.
func TestMemory(t *testing.T) {
	l, untouched := roomyRules(), roomyRules()
	unchanged := func() bool {
		spare := l[len(l):cap(l)]
		for _, r := range l {
			for _, x := range r.Body[len(r.Body):cap(r.Body)] {
				if x.Not || x.Atom.Name != "" {
					return false
				}
			}
		}
		return reflect.DeepEqual(l, untouched) && !slices.ContainsFunc(spare, func(r api.Rule) bool { return r.Head.Name != "" || r.Body != nil })
	}
	for _, r := range l {
		normal.Same(r, l[0])
		normal.Same(l[0], r)
		normal.Compare(r, l[0])
		x, _ := normal.Rule(r)
		scribble([]api.Rule{x})
	}
	for n := range len(l) + 1 {
		normal.Equal(l[:n], l)
		x, _ := normal.Rules(l[:n])
		scribble(x)
	}
	if !unchanged() {
		t.Error("an argument has changed")
	}
	q := api.Literal{Atom: fun("q", fun("f", leaf("1")))}
	x, _ := normal.Rules([]api.Rule{{Head: q.Atom, Body: []api.Literal{q, {Not: true, Atom: q.Atom}}}, {Head: q.Atom, Body: []api.Literal{q}}})
	scribble(x[:1:1])
	if show(x[1:]) != "q(f(1)) if q(f(1)) and not q(f(1))." {
		t.Error("two rules of a result share memory:", show(x))
	}
	scribble([]api.Rule{{Head: x[1].Head}})
	x[1].Body[0].Atom.Args[0].Args[0].Name = "2"
	if show(x[1:]) != "q(scribble) if q(f(2)) and not q(f(1))." {
		t.Error("two atoms of a result share memory:", show(x))
	}
}

// R1: terms at the bound of nesting
func TestDeepTerms(t *testing.T) {
	const depth = 1 << 16
	deep, ground := api.Rule{Head: nested(depth, "X")}, api.Rule{Head: nested(depth, "a")}
	if normal.Compare(deep, ground) != 1 || normal.Compare(ground, deep) != -1 || normal.Compare(deep, deep) != 0 {
		t.Error("Compare")
	}
	if _, err := normal.Rule(deep); err != api.ErrInvalid {
		t.Error("Rule:", err)
	}
	if same, err := normal.Equal([]api.Rule{deep}, []api.Rule{ground}); same || err != api.ErrInvalid {
		t.Error("Equal:", same, err)
	}
}

package unify_test

import (
	"fmt"
	"reflect"
	"slices"
	"testing"

	"gameplayer/api"
	"gameplayer/term"
	"gameplayer/unify"
)

// roomy copies a term, with lists that have spare capacity.
func roomy(x api.Term) api.Term {
	l := make([]api.Term, 0, len(x.Args)+2)
	for _, a := range x.Args {
		l = append(l, roomy(a))
	}
	return api.Term{Name: x.Name, Args: l}
}

func roomyBindings(s []api.Binding) []api.Binding {
	l := make([]api.Binding, 0, len(s)+3)
	for _, b := range s {
		l = append(l, api.Binding{Var: b.Var, Term: roomy(b.Term)})
	}
	return l
}

func roomyRule(r api.Rule) api.Rule {
	l := make([]api.Literal, 0, len(r.Body)+2)
	for _, x := range r.Body {
		l = append(l, api.Literal{Not: x.Not, Atom: roomy(x.Atom)})
	}
	return api.Rule{Head: roomy(r.Head), Body: l}
}

// scribble overwrites all that terms can reach, with spare capacity.
func scribble(terms ...api.Term) {
	for _, x := range terms {
		l := x.Args[:cap(x.Args)]
		scribble(l...)
		for i := range l {
			l[i] = leaf("scribble")
		}
	}
}

func scribbleBindings(s []api.Binding) {
	for _, b := range s {
		scribble(b.Term)
	}
	for i := range s[:cap(s)] {
		s[:cap(s)][i] = api.Binding{Var: "Scribble"}
	}
}

func scribbleRule(r api.Rule) {
	scribble(r.Head)
	for _, l := range r.Body {
		scribble(l.Atom)
	}
	for i := range r.Body[:cap(r.Body)] {
		r.Body[:cap(r.Body)][i] = api.Literal{Atom: leaf("scribble")}
	}
}

// arguments are what all functions are called with.
type arguments struct {
	s, t, none       []api.Binding
	a, b, p, deep, g api.Term
	r                api.Rule
}

func newArguments() arguments {
	return arguments{
		s: roomyBindings(bind("X", "f(Y,g(a))", "Z", "h(h(1))")), t: roomyBindings(bind("W", "f(X)", "Y", "g(X,X)")), none: roomyBindings(nil),
		a: roomy(read("p(X,g(Y),f(W,W),Z)")), b: roomy(read("p(f(g(U,V)),g(g(b)),Z,f(g(V),g(V)))")), p: roomy(read("p(A,g(B,A))")), deep: roomy(nested(6, "X")), g: roomy(read("p(f(1,a),g(h(b),f(1,a)))")),
		r: roomyRule(readRule("p(X,f(Y)) if q(X,X) and not r(g(X),Y,a).")),
	}
}

// results calls all functions and returns, for each result, its text and what overwrites it.
func (x arguments) results() (texts []string, overwrite []func()) {
	keepTerm := func(t api.Term) {
		texts = append(texts, term.Text(t))
		overwrite = append(overwrite, func() { scribble(t) })
	}
	keep := func(s []api.Binding) {
		texts = append(texts, show(s))
		overwrite = append(overwrite, func() { scribbleBindings(s) })
	}
	keepRule := func(r api.Rule) {
		texts = append(texts, fmt.Sprint(r))
		overwrite = append(overwrite, func() { scribbleRule(r) })
	}
	for _, s := range [][]api.Binding{x.s, x.t, x.none} {
		unify.Valid(s)
		l, _ := unify.Lookup(s, "X")
		keepTerm(l)
		keepTerm(unify.Apply(s, x.a))
		keepTerm(unify.Apply(s, x.deep))
		keepRule(unify.ApplyRule(s, x.r))
		m, _ := unify.Match(x.p, x.g, s)
		keep(m)
		m, _ = unify.Match(x.g, x.g, s)
		keep(m)
		keep(unify.Compose(s, x.t))
		keep(unify.Compose(x.s, s))
	}
	for _, other := range []api.Term{x.a, x.b, x.p, x.g, x.deep} {
		u, _ := unify.Unify(x.a, other)
		keep(u)
	}
	for _, prefix := range []string{"V", "v"} {
		r, _ := unify.Rename(x.r, prefix)
		keepRule(r)
	}
	return texts, overwrite
}

// R5: arguments are not modified, nor is their spare capacity.
func TestArgumentsAreUntouched(t *testing.T) {
	x, untouched := newArguments(), newArguments()
	x.results()
	if !reflect.DeepEqual(x, untouched) {
		t.Error("an argument has changed")
	}
	for _, s := range [][]api.Binding{x.s, x.t, x.none} {
		for _, b := range s[len(s):cap(s)] {
			if b.Var != "" {
				t.Error("the spare capacity of a substitution has changed")
			}
		}
	}
	for _, l := range x.r.Body[len(x.r.Body):cap(x.r.Body)] {
		if l.Atom.Name != "" {
			t.Error("the spare capacity of a body has changed")
		}
	}
}

// R5: results share no memory with arguments or with one another.
func TestResultsAreNewMemory(t *testing.T) {
	x := newArguments()
	texts, overwrite := x.results()
	for i, scribbled := range overwrite {
		scribbled()
		again, _ := x.results()
		if !slices.Equal(again, texts) {
			t.Fatal("arguments are not as before result", i, "was overwritten")
		}
	}
	if !reflect.DeepEqual(x, newArguments()) {
		t.Error("an argument shares memory with a result")
	}
}

// lists appends all the lists of arguments that terms can reach.
func lists(l [][]api.Term, terms ...api.Term) [][]api.Term {
	for _, x := range terms {
		if cap(x.Args) > 0 {
			l = lists(append(l, x.Args), x.Args...)
		}
	}
	return l
}

// R5: no two lists of one result share memory.
func TestListsOfAResultDiffer(t *testing.T) {
	s, part := bind("X", "f(Y,g(a))"), read("f(1,g(2))")
	rule := unify.ApplyRule(s, readRule("p(X,X) if q(X) and not q(X)."))
	renamed, _ := unify.Rename(readRule("p(f(A),f(A)) if q(f(A))."), "V")
	m, _ := unify.Match(read("p(U,V,W)"), fun("p", part, part, part), s)
	u, _ := unify.Unify(read("p(X,Y,Z)"), read("p(f(Z,Z),f(Z,Z),g(1))"))
	c := unify.Compose(bind("X", "f(Y)", "Z", "f(Y)"), bind("Y", "g(1)"))
	all := lists(nil, unify.Apply(s, read("p(X,f(X,X))")))
	all = lists(all, rule.Head, rule.Body[0].Atom, rule.Body[1].Atom, renamed.Head, renamed.Body[0].Atom)
	for _, b := range slices.Concat(m, u, c) {
		all = lists(all, b.Term)
	}
	firsts := map[*api.Term]bool{}
	for _, l := range all {
		firsts[&l[:1][0]] = true
	}
	if len(firsts) != len(all) || len(all) < 30 {
		t.Error(len(all), "lists in", len(firsts), "places")
	}
}

// R1: terms at the bound of nesting
func TestDeepTerms(t *testing.T) {
	const depth = 1 << 16
	deep, ground := nested(depth, "X"), nested(depth, "a")
	s := bind("X", "a")
	if !equal(unify.Apply(s, deep), ground) || !equal(unify.ApplyRule(s, api.Rule{Head: deep}).Head, ground) {
		t.Error("Apply")
	}
	_, matched := unify.Match(deep, ground, nil)
	_, unified := unify.Unify(deep, ground)
	if matched || unified || unify.Valid([]api.Binding{{Var: "X", Term: deep}}) {
		t.Error("terms that are not valid")
	}
	if r, ok := unify.Rename(api.Rule{Head: deep}, "Y"); !ok || !equal(r.Head, nested(depth, "Y1")) {
		t.Error("Rename")
	}
}

// R1: substitutions that are not valid
func TestInvalidSubstitutions(t *testing.T) {
	bad := [][]api.Binding{{{}}, {{}, {}, {}}, bind("Y", "a", "X", "b"), bind("X", "a", "X", "b"), bind("a", "b"), {{Var: "X", Term: fun("", nested(9, "X"))}}, make([]api.Binding, 1000)}
	for _, s := range bad {
		for _, u := range append(bad, bind("X", "Y")) {
			unify.Compose(s, u)
			unify.Compose(u, s)
		}
		unify.Lookup(s, "X")
		unify.Lookup(s, "")
		unify.Apply(s, fun("X", leaf("X"), leaf(""), leaf("Y")))
		unify.ApplyRule(s, readRule("p(X) if q(Y,a)."))
		if _, ok := unify.Match(leaf("X"), leaf("a"), s); ok && !unify.Valid(s) {
			t.Error("a match of", show(s))
		}
	}
}

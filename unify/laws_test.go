package unify_test

import (
	"math/rand/v2"
	"slices"
	"testing"

	"gameplayer/api"
	"gameplayer/printer"
	"gameplayer/term"
	"gameplayer/unify"
)

// vocabularies make terms of different kinds.
func vocabularies(seed uint64) []vocabulary {
	r := rand.New(rand.NewPCG(7, seed))
	return []vocabulary{
		{r: r, variables: []string{"X", "Y"}, symbols: []string{"f"}},
		{r: r, variables: []string{"W", "X", "Y", "Z"}, symbols: []string{"f", "g"}},
		{r: r, variables: []string{"A", "B", "C", "D", "X", "X1", "X10", "X2", "Xa", "Y"}, symbols: []string{"f", "g", "f", "p"}},
	}
}

// small are all terms of depth 2 at most over a few names, and some deeper ones.
func small() []api.Term {
	l := []api.Term{leaf("X"), leaf("Y"), leaf("a")}
	for _, x := range l[:3] {
		l = append(l, fun("f", x))
	}
	for _, x := range l[:6] {
		for _, y := range l[:6] {
			l = append(l, fun("p", x, y))
		}
	}
	return append(l, nested(3, "X"), nested(3, "a"), nested(4, "Y"))
}

// substitutions are those of X and Y by the given terms, where only some variables may be bound.
func substitutions(terms []api.Term) [][]api.Binding {
	l := [][]api.Binding{nil}
	for _, x := range terms {
		l = append(l, []api.Binding{{Var: "X", Term: x}}, []api.Binding{{Var: "Y", Term: x}})
		for _, y := range terms {
			l = append(l, []api.Binding{{Var: "X", Term: x}, {Var: "Y", Term: y}})
		}
	}
	return l
}

// P7.2: comparison with a replacement in the texts
func TestApplyReplacesTokens(t *testing.T) {
	for _, v := range vocabularies(1) {
		for range 2000 {
			s, x := v.substitution(3), v.term(api.MaxDepth)
			if got, want := term.Text(unify.Apply(s, x)), replaceInText(s, term.Text(x)); got != want {
				t.Fatalf("Apply(%s, %s) is %s, not %s", show(s), term.Text(x), got, want)
			}
			r := api.Rule{Head: fun("p", x), Body: []api.Literal{{Not: v.r.IntN(2) == 0, Atom: fun("q", v.term(3))}, {Atom: fun("q", v.term(3))}}}
			got := replaceInText(nil, printer.Rule(unify.ApplyRule(s, r)))
			if want := replaceInText(s, printer.Rule(r)); got != want {
				t.Fatalf("ApplyRule(%s, %s) is %s, not %s", show(s), printer.Rule(r), got, want)
			}
		}
	}
}

// parts are a term and all terms within it.
func parts(x api.Term) []api.Term {
	l := []api.Term{x}
	for _, a := range x.Args {
		l = append(l, parts(a)...)
	}
	return l
}

// P7.3: comparison with a search of all bindings to parts of the ground term
func TestMatchIsTheOnlyOne(t *testing.T) {
	counts := map[bool]int{}
	for _, pattern := range small() {
		for _, ground := range small() {
			for _, s := range [][]api.Binding{nil, bind("X", "a"), bind("Y", "f(a)"), bind("X", "f(X)", "Z", "a"), bind("Y", "Y")} {
				want, possible := "", false
				for _, more := range substitutions(parts(ground)) {
					u, ok := extension(s, more, term.Vars(pattern))
					if ok && term.Ground(ground) && replaceInText(u, term.Text(pattern)) == term.Text(ground) {
						want, possible = show(u), true
					}
				}
				got, ok := unify.Match(pattern, ground, s)
				if show(got) != want || ok != possible {
					t.Fatalf("Match(%s, %s, %s) is %s, %v, not %s, %v", term.Text(pattern), term.Text(ground), show(s), show(got), ok, want, possible)
				}
				counts[ok]++
			}
		}
	}
	if counts[true] < 100 || counts[false] < 100 {
		t.Error("too few cases of a kind:", counts)
	}
}

// extension joins two substitutions if they bind different variables, the second one all that remain.
func extension(s, more []api.Binding, vars []string) ([]api.Binding, bool) {
	u := slices.Clone(s)
	for _, b := range more {
		if slices.ContainsFunc(s, func(o api.Binding) bool { return o.Var == b.Var }) || !slices.Contains(vars, b.Var) {
			return nil, false
		}
		u = append(u, b)
	}
	slices.SortFunc(u, func(a, b api.Binding) int { return term.Compare(leaf(a.Var), leaf(b.Var)) })
	return u, true
}

// P7.8
func TestInstancesAreMatched(t *testing.T) {
	ground := vocabulary{r: rand.New(rand.NewPCG(7, 2)), variables: nil, symbols: []string{"f", "g", "f"}}
	for _, v := range vocabularies(3) {
		for range 3000 {
			pattern := v.term(3)
			var s, some, want []api.Binding
			for _, x := range v.variables {
				b := api.Binding{Var: x, Term: ground.term(2)}
				s = append(s, b)
				given := v.r.IntN(3) == 0
				if given {
					some = append(some, b)
				}
				if given || occurs(x, term.Text(pattern)) {
					want = append(want, b)
				}
			}
			instance := unify.Apply(s, pattern)
			got, ok := unify.Match(pattern, instance, some)
			if !ok || !slices.EqualFunc(got, want, equalBindings) || !equal(unify.Apply(got, pattern), instance) {
				t.Fatalf("Match(%s, %s, %s) is %s, %v", term.Text(pattern), term.Text(instance), show(some), show(got), ok)
			}
		}
	}
}

// P7.4, P7.10: comparison with another way of finding unifiers
func TestUnifyAgreesWithElimination(t *testing.T) {
	check := func(a, b api.Term) bool {
		want, possible := unifier(a, b)
		s, ok := unify.Unify(a, b)
		u, again := unify.Unify(b, a)
		if show(s) != want || ok != possible || show(u) != want || again != possible {
			t.Fatalf("Unify(%s, %s) is %s, %v, and the other way %s, %v, not %s, %v", term.Text(a), term.Text(b), show(s), ok, show(u), again, want, possible)
		}
		return ok
	}
	counts := map[bool]int{}
	for _, a := range small() {
		for _, b := range small() {
			counts[check(a, b)]++
		}
	}
	for _, v := range vocabularies(4) {
		for range 4000 {
			x, y := fun("p"), fun("p")
			for range 3 {
				x.Args, y.Args = append(x.Args, v.term(2)), append(y.Args, v.term(3))
			}
			counts[check(x, y)]++
		}
	}
	if counts[true] < 1000 || counts[false] < 1000 {
		t.Error("too few cases of a kind:", counts)
	}
}

// P7.4, P7.7: what a unifier in normal form is
func TestUnifierIsInNormalForm(t *testing.T) {
	found := 0
	for _, v := range vocabularies(5) {
		for range 4000 {
			a, b := v.term(4), v.term(3)
			s, ok := unify.Unify(a, b)
			if !ok {
				continue
			}
			found++
			vars := term.Vars(a, b)
			once := unify.Apply(s, a)
			if !unify.Valid(s) || !equal(once, unify.Apply(s, b)) || !equal(once, unify.Apply(s, once)) {
				t.Fatalf("Unify(%s, %s) is %s", term.Text(a), term.Text(b), show(s))
			}
			for _, x := range s {
				if !slices.Contains(vars, x.Var) || !equal(unify.Apply(s, x.Term), x.Term) || equal(x.Term, leaf(x.Var)) || term.Variable(x.Term.Name) && x.Term.Name > x.Var {
					t.Fatalf("Unify(%s, %s) is %s", term.Text(a), term.Text(b), show(s))
				}
			}
		}
	}
	if found < 1000 {
		t.Error("too few terms have unifiers:", found)
	}
}

// P7.7: every unifier is an instance of the one that is returned.
func TestUnifierIsMostGeneral(t *testing.T) {
	terms := small()
	all := substitutions(terms[:20])
	instances := make([][]string, len(all))
	for i, u := range all {
		for _, x := range terms {
			instances[i] = append(instances[i], term.Text(unify.Apply(u, x)))
		}
	}
	for i, a := range terms {
		for k, b := range terms {
			s, ok := unify.Unify(a, b)
			for j, u := range all {
				if instances[j][i] != instances[j][k] {
					continue
				}
				for _, v := range []string{"X", "Y", "Z"} {
					if !ok || !equal(unify.Apply(u, unify.Apply(s, leaf(v))), unify.Apply(u, leaf(v))) {
						t.Fatalf("Unify(%s, %s) is %s, %v, but %s unifies them", term.Text(a), term.Text(b), show(s), ok, show(u))
					}
				}
			}
		}
	}
}

// P7.5, P7.9
func TestComposeIsOneAfterTheOther(t *testing.T) {
	for _, v := range vocabularies(6) {
		for range 3000 {
			s, u, x := v.substitution(3), v.substitution(3), v.term(api.MaxDepth)
			c := unify.Compose(s, u)
			if got, want := unify.Apply(c, x), unify.Apply(u, unify.Apply(s, x)); !equal(got, want) {
				t.Fatalf("by Compose(%s, %s) %s becomes %s, not %s", show(s), show(u), term.Text(x), term.Text(got), term.Text(want))
			}
			for i, b := range c {
				bound := slices.ContainsFunc(slices.Concat(s, u), func(o api.Binding) bool { return o.Var == b.Var })
				if !bound || equal(b.Term, leaf(b.Var)) || i > 0 && c[i-1].Var >= b.Var {
					t.Fatalf("Compose(%s, %s) is %s", show(s), show(u), show(c))
				}
			}
		}
	}
}

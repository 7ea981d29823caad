package join

import (
	"slices"

	"gameplayer/api"
	"gameplayer/unify"
)

const distinct = "distinct"

// WithoutEqualities returns a rule that has the same instances, but no literal not distinct(a, b); and false if there are no instances. An instance in which two terms are equal is one of what their most general unifier makes of the rule.
func WithoutEqualities(r api.Rule) (api.Rule, bool) {
	var s []api.Binding
	var rest []api.Literal
	for _, l := range r.Body {
		if !l.Not || l.Atom.Name != distinct {
			rest = append(rest, l)
			continue
		}
		longer, ok := equate(s, l.Atom.Args[0], l.Atom.Args[1])
		if !ok {
			return api.Rule{}, false
		}
		s = longer
	}
	return unify.ApplyRule(s, api.Rule{Head: r.Head, Body: rest}), true
}

// equate returns the most general substitution that goes on from s and makes two terms equal, unless it is not valid: a variable that becomes deeper than MaxDepth is no part of an atom. The two terms themselves may be deeper, too deep for unify.Unify; so their arguments are made equal one by one.
func equate(s []api.Binding, a, b api.Term) ([]api.Binding, bool) {
	a, b = unify.Apply(s, a), unify.Apply(s, b)
	if len(a.Args) == 0 || a.Name != b.Name || len(a.Args) != len(b.Args) {
		more, ok := unify.Unify(a, b)
		s = unify.Compose(s, more)
		return s, ok && unify.Valid(s)
	}
	for i := range len(a.Args) {
		longer, ok := equate(s, a.Args[i], b.Args[i])
		if !ok {
			return nil, false
		}
		s = longer
	}
	return s, true
}

// Equality says that two terms are equal: exactly if each of some variables is equal to a term.
type Equality struct {
	Vars  Set
	sides [][2]Pattern
}

// NewEquality returns the equality of two terms, and whether there is one for some terms of their variables. The number of a variable is its index in a list.
func NewEquality(a, b api.Term, vars []string) (Equality, bool) {
	s, ok := equate(nil, a, b)
	if !ok {
		return Equality{}, false
	}
	var y Equality
	for _, x := range s {
		left, right := NewPattern(api.Term{Name: x.Var}, vars), NewPattern(x.Term, vars)
		y.Vars |= left.Vars() | right.Vars()
		y.sides = append(y.sides, [2]Pattern{left, right})
	}
	return y, true
}

// Holds reports whether an equality holds for the terms of a row.
func (y Equality) Holds(n *Terms, r Row) bool {
	return !slices.ContainsFunc(y.sides, func(x [2]Pattern) bool { return n.Number(x[0], r) != n.Number(x[1], r) })
}

// Differ is the condition that an equality does not hold.
func (y Equality) Differ(n *Terms) Condition {
	return Condition{Vars: y.Vars, Fails: func(r Row) bool { return y.Holds(n, r) }}
}

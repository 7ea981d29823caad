package ground

import (
	"slices"

	"gameplayer/api"
	"gameplayer/unify"
)

// pair are two terms of a rule.
type pair struct{ a, b api.Term }

// parts are the terms of a rule by what is required of them.
type parts struct {
	head          api.Term
	pos, neg      []api.Term
	differ, equal []pair
}

func divide(r api.Rule) parts {
	p := parts{head: r.Head}
	for _, l := range r.Body {
		switch {
		case l.Atom.Name == distinct && l.Not:
			p.equal = append(p.equal, pair{l.Atom.Args[0], l.Atom.Args[1]})
		case l.Atom.Name == distinct:
			p.differ = append(p.differ, pair{l.Atom.Args[0], l.Atom.Args[1]})
		case l.Not:
			p.neg = append(p.neg, l.Atom)
		default:
			p.pos = append(p.pos, l.Atom)
		}
	}
	return p
}

// withoutEqualities returns the parts of a rule that has the same instances, but no terms that must be equal; and false if there are no instances. An instance in which two terms are equal is one of what their most general unifier makes of the rule.
func withoutEqualities(r api.Rule) (parts, bool) {
	var s []api.Binding
	for _, x := range divide(r).equal {
		longer, ok := equate(s, x.a, x.b)
		if !ok {
			return parts{}, false
		}
		s = longer
	}
	p := divide(unify.ApplyRule(s, r))
	p.equal = nil
	return p, true
}

// equate returns the most general substitution that goes on from s and makes two terms equal, unless it is not valid: a variable that becomes deeper than MaxDepth is no part of an atom. The two terms themselves may be deeper, too deep for unify.Unify; so their arguments are made equal one by one.
func equate(s []api.Binding, a, b api.Term) ([]api.Binding, bool) {
	a, b = unify.Apply(s, a), unify.Apply(s, b)
	if len(a.Args) == 0 || a.Name != b.Name || len(a.Args) != len(b.Args) {
		more, ok := unify.Unify(a, b)
		s = unify.Compose(s, more)
		return s, ok && unify.Valid(s)
	}
	for i := range len(a.Args) {
		longer, ok := equate(s, a.Args[i], b.Args[i])
		if !ok {
			return nil, false
		}
		s = longer
	}
	return s, true
}

// condition says that not all of its equations hold.
type condition struct {
	equations []api.Binding
	vars      set
}

// conditions are those under which an instance with its atoms in the list yields a ground rule. That numbers of atoms differ, as they must, means that the atoms do.
func conditions(p parts, vars []string) []condition {
	pairs := slices.Clone(p.differ)
	for _, a := range p.pos {
		pairs = append(pairs, pair{a, p.head})
		for _, b := range p.neg {
			pairs = append(pairs, pair{a, b})
		}
	}
	var list []condition
	for _, x := range pairs {
		equations, ok := equate(nil, x.a, x.b)
		if !ok { // they differ in every instance
			continue
		}
		c := condition{equations: equations}
		for _, b := range equations {
			c.vars |= varsOf(vars, api.Term{Name: b.Var}, b.Term)
		}
		list = append(list, c)
	}
	return list
}

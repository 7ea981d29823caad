package relax

import (
	"math"
	"slices"

	"gameplayer/api"
	"gameplayer/term"
)

// The lists of atoms in which a pattern is looked for.
const (
	allAtoms   = iota
	freshAtoms // those that are new since the round before
	oldAtoms   // the others
	listCount
)

// lists are the atoms before a round, each list ascending.
type lists [listCount][]api.Term

// query is a way to search for the instances of a rule: its patterns are matched one after the other.
type query struct {
	rule     api.Rule
	patterns []api.Term      // the atoms of the literals that bind
	lists    []int           // for each pattern the list in which it is looked for
	checks   [][]api.Literal // before each pattern, and after the last one: the literals with distinct of which all variables are bound
	needed   [][]string      // likewise the variables whose terms matter from there on
	settled  int             // after how many patterns the wanted variables are bound; from there on these do not matter
}

// queriesOf returns queries that together find the instances of rules that have fresh atoms in their bodies, or none at all: for each literal that binds, there is a query for the instances of which it has the first fresh atom.
func queriesOf(l []api.Rule) []query {
	var queries []query
	for _, r := range slices.Concat(l, commonRules()) {
		wanted := term.Vars(r.Head)
		for first := range binding(r) {
			queries = append(queries, newQuery(r, wanted, first))
		}
		if len(binding(r)) == 0 {
			queries = append(queries, newQuery(r, wanted))
		}
	}
	return queries
}

// commonRules say, for every game, that facts and moves are possible.
func commonRules() []api.Rule {
	f, r, m := api.Term{Name: "F"}, api.Term{Name: "R"}, api.Term{Name: "M"}
	simple := func(head, body string, args ...api.Term) api.Rule {
		return api.Rule{Head: api.Term{Name: head, Args: args}, Body: []api.Literal{{Atom: api.Term{Name: body, Args: args}}}}
	}
	return []api.Rule{simple("true", "init", f), simple("true", "next", f), simple("does", "legal", r, m)}
}

// binding returns the atoms of the literals of a rule that bind variables.
func binding(r api.Rule) []api.Term {
	var atoms []api.Term
	for _, l := range r.Body {
		if !l.Not && l.Atom.Name != "distinct" {
			atoms = append(atoms, l.Atom)
		}
	}
	return atoms
}

// newQuery returns the query for the terms of the wanted variables in all instances of a rule; or, if the place of a literal among those that bind is given, in those of which it has the first fresh atom.
func newQuery(r api.Rule, wanted []string, first ...int) query {
	atoms := binding(r)
	q := query{rule: r}
	for _, i := range arrange(atoms, first...) {
		list := allAtoms
		switch {
		case len(first) > 0 && i == first[0]:
			list = freshAtoms
		case len(first) > 0 && i < first[0]:
			list = oldAtoms
		}
		q.patterns = append(q.patterns, atoms[i])
		q.lists = append(q.lists, list)
	}
	q.plan(wanted)
	return q
}

// plan finds out when the literals with distinct can be checked, and which variables are needed for how long.
func (q *query) plan(wanted []string) {
	open, _ := divide(q.rule.Body, func(l api.Literal) bool { return l.Atom.Name == "distinct" })
	for i := range len(q.patterns) + 1 {
		bound := term.Vars(q.patterns[:i]...)
		var ready []api.Literal
		ready, open = divide(open, func(l api.Literal) bool { return contained(term.Vars(l.Atom), bound) })
		later := slices.Clone(q.patterns[i:])
		for _, l := range open {
			later = append(later, l.Atom)
		}
		needed := term.Vars(later...)
		if !contained(wanted, bound) {
			needed = append(needed, wanted...)
			q.settled = i + 1
		}
		q.checks = append(q.checks, ready)
		q.needed = append(q.needed, needed)
	}
}

// divide returns the elements of a list for which a function is true, and the others.
func divide[T any](l []T, in func(T) bool) (inside, outside []T) {
	for _, x := range l {
		if in(x) {
			inside = append(inside, x)
		} else {
			outside = append(outside, x)
		}
	}
	return inside, outside
}

// contained reports whether a list contains all names.
func contained(names, list []string) bool {
	return !slices.ContainsFunc(names, func(s string) bool { return !slices.Contains(list, s) })
}

// arrange returns the order in which atoms are matched: after those that are given, next comes each time the one of which the most is known then.
func arrange(atoms []api.Term, given ...int) []int {
	order := slices.Clone(given)
	for len(order) < len(atoms) {
		var bound []string
		for _, i := range order {
			bound = append(bound, term.Vars(atoms[i])...)
		}
		next := -1
		for i, t := range atoms {
			if !slices.Contains(order, i) && (next < 0 || known(t, bound) > known(atoms[next], bound)) {
				next = i
			}
		}
		order = append(order, next)
	}
	return order
}

// known says how much of an atom is known if some variables are bound: most of all if all of its variables are; else rather if many of them are than few, and then rather if few others are not.
func known(t api.Term, bound []string) int {
	vars := term.Vars(t)
	inside, outside := divide(vars, func(v string) bool { return slices.Contains(bound, v) })
	if len(outside) == 0 {
		return math.MaxInt
	}
	return len(inside)*(api.MaxVars+1) - len(outside)
}

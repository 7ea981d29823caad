package relax

import (
	"cmp"
	"slices"
	"sort"

	"gameplayer/api"
	"gameplayer/term"
	"gameplayer/unify"
)

// search is the state of a query that is answered.
type search struct {
	query
	atoms lists
	found func(s []api.Binding) bool
	ended bool           // found has returned false
	met   map[stage]bool // the stages that were reached, and for those at which the wanted variables are bound whether an instance follows
}

// stage is what determines how a search goes on: the number of patterns that are matched, and the terms of the variables that are needed from there on.
type stage struct {
	matched int
	terms   string
}

// answer calls found with the terms of the wanted variables, for all that they have in instances, until it returns false.
func (q query) answer(atoms lists, found func(s []api.Binding) bool) {
	for i, p := range q.patterns {
		if len(alike(atoms[q.lists[i]], p)) == 0 {
			return
		}
	}
	x := search{query: q, atoms: atoms, found: found, met: map[stage]bool{}}
	x.visit(0, nil)
}

// visit matches the patterns from i on in all ways until the wanted variables are bound. For the other patterns one way is enough.
func (x *search) visit(i int, s []api.Binding) {
	if i == x.settled {
		x.ended = x.exists(i, s) && !x.found(s)
		return
	}
	if !x.permitted(i, s) {
		return
	}
	s = keep(s, x.needed[i])
	here := stage{i, textOf(s)}
	if x.met[here] {
		return
	}
	x.met[here] = true
	for _, t := range x.candidates(i, s) {
		if longer, ok := unify.Match(x.patterns[i], t, s); ok {
			x.visit(i+1, longer)
		}
		if x.ended {
			return
		}
	}
}

// exists reports whether the patterns from i on can be matched.
func (x *search) exists(i int, s []api.Binding) bool {
	if !x.permitted(i, s) {
		return false
	}
	s = keep(s, x.needed[i])
	here := stage{i, textOf(s)}
	result, known := x.met[here]
	if !known {
		result = i == len(x.patterns) || slices.ContainsFunc(x.candidates(i, s), func(t api.Term) bool {
			longer, ok := unify.Match(x.patterns[i], t, s)
			return ok && x.exists(i+1, longer)
		})
		x.met[here] = result
	}
	return result
}

// permitted reports whether the literals hold that can be checked before the pattern i.
func (x *search) permitted(i int, s []api.Binding) bool {
	return !slices.ContainsFunc(x.checks[i], func(l api.Literal) bool {
		t := unify.Apply(s, l.Atom)
		return l.Not != (term.Compare(t.Args[0], t.Args[1]) == 0)
	})
}

// candidates returns the atoms that the pattern i may match.
func (x *search) candidates(i int, s []api.Binding) []api.Term {
	return alike(x.atoms[x.lists[i]], unify.Apply(s, x.patterns[i]))
}

// keep returns the bindings of some variables.
func keep(s []api.Binding, vars []string) []api.Binding {
	kept, _ := divide(s, func(b api.Binding) bool { return slices.Contains(vars, b.Var) })
	return kept
}

// textOf returns the texts of the terms of variables, each with a blank, which no text of a term contains.
func textOf(s []api.Binding) string {
	var text []byte
	for _, b := range s {
		text = append(append(text, term.Text(b.Term)...), ' ')
	}
	return string(text)
}

// alike returns the part of an ascending list that has the relation of a pattern, as many arguments, and the same ones before the first one with a variable.
func alike(atoms []api.Term, pattern api.Term) []api.Term {
	same := slices.IndexFunc(pattern.Args, func(t api.Term) bool { return len(term.Vars(t)) > 0 })
	order := func(t api.Term) int {
		if same < 0 || len(t.Args) != len(pattern.Args) {
			return term.Compare(t, pattern)
		}
		return cmp.Or(cmp.Compare(t.Name, pattern.Name), term.CompareList(t.Args[:same], pattern.Args[:same]))
	}
	from := sort.Search(len(atoms), func(i int) bool { return order(atoms[i]) >= 0 })
	to := sort.Search(len(atoms), func(i int) bool { return order(atoms[i]) > 0 })
	return atoms[from:to]
}

// Package derive evaluates rules in rounds. Layers 12 and 15 to 17 share it.
package derive

import (
	"gameplayer/api"
	"gameplayer/join"
	"gameplayer/term"
)

const distinct = "distinct"

// Program has rules that are prepared for their evaluation. It does not change.
type Program struct {
	rules []rule
	order [][]int // the rules of each stratum
}

// rule is a rule of which all variables are in the atoms of pos.
type rule struct {
	head     join.Pattern
	pos, neg []literal
	equal    []join.Equality // none of these holds
}

// literal is an atom of a body.
type literal struct {
	join.Pattern
	vars     join.Set
	relation relation
}

// relation is a name with a number of arguments.
type relation struct {
	name string
	args int
}

// New prepares valid rules, of which the strata have those with the given indexes.
func New(l []api.Rule, order [][]int) *Program {
	p := &Program{order: make([][]int, len(order))}
	for level, indexes := range order {
		for _, i := range indexes {
			p.add(level, l[i])
		}
	}
	return p
}

// Together prepares valid rules for one stratum.
func Together(l []api.Rule) *Program {
	var indexes []int
	for i := range l {
		indexes = append(indexes, i)
	}
	return New(l, [][]int{indexes})
}

// add adds a rule to a stratum, if it has instances.
func (p *Program) add(level int, r api.Rule) {
	r, ok := join.WithoutEqualities(r)
	if !ok {
		return
	}
	vars := variables(r)
	prepared := rule{head: join.NewPattern(r.Head, vars)}
	for _, l := range r.Body {
		switch {
		case l.Atom.Name == distinct:
			y, ok := join.NewEquality(l.Atom.Args[0], l.Atom.Args[1], vars)
			if ok {
				prepared.equal = append(prepared.equal, y)
			}
		case l.Not:
			prepared.neg = append(prepared.neg, newLiteral(l.Atom, vars))
		default:
			prepared.pos = append(prepared.pos, newLiteral(l.Atom, vars))
		}
	}
	p.order[level] = append(p.order[level], len(p.rules))
	p.rules = append(p.rules, prepared)
}

// variables returns the variables of a valid rule: those of the literals that bind.
func variables(r api.Rule) []string {
	var atoms []api.Term
	for _, l := range r.Body {
		if !l.Not && l.Atom.Name != distinct {
			atoms = append(atoms, l.Atom)
		}
	}
	return term.Vars(atoms...)
}

func newLiteral(t api.Term, vars []string) literal {
	p := join.NewPattern(t, vars)
	return literal{p, p.Vars(), relation{t.Name, len(t.Args)}}
}

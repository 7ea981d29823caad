package logic

import (
	"slices"

	"gameplayer/api"
	"gameplayer/depend"
	"gameplayer/derive"
	"gameplayer/prove"
	"gameplayer/strata"
	"gameplayer/term"
)

// The parts of a description: what the relations of the heads depend on.
const (
	onNothing = iota
	onFacts
	onMoves // perhaps also on facts
	parts   // their number
)

// split divides a description. A part depends only on itself and on those before it.
func split(l []api.Rule) [parts][]api.Rule {
	var divided [parts][]api.Rule
	edges := depend.Edges(l)
	for _, r := range l {
		below := depend.Reach(edges, r.Head.Name)
		part := onNothing
		switch {
		case slices.Contains(below, "does"):
			part = onMoves
		case slices.Contains(below, "true"):
			part = onFacts
		}
		divided[part] = append(divided[part], r)
	}
	return divided
}

// prepare prepares the rules of some parts. They have strata, as the whole description has.
func prepare(some ...[]api.Rule) *derive.Program {
	l := slices.Concat(some...)
	order, _ := strata.Order(l)
	return derive.New(l, order)
}

// hold returns, ascending, the atoms that hold by some rules if others are given. All of them are possible atoms, and therefore neither too deep nor too many.
func hold(p *derive.Program, given []api.Term) []api.Term {
	atoms, _ := p.All(given)
	return atoms
}

// stateError returns the error of a state.
func (g *Game) stateError(state []api.Term) api.Errno {
	switch {
	case !g.returned():
		return api.ErrInvalid
	case !g.Valid(state):
		return api.ErrState
	}
	return api.OK
}

// inState returns, ascending, the atoms that hold in a state, except those of relations that depend on moves.
func (g *Game) inState(state []api.Term) ([]api.Term, api.Errno) {
	if e := g.stateError(state); e != api.OK {
		return nil, e
	}
	return hold(g.byFacts, slices.Concat(prove.Given(state, nil, nil), g.fixed)), api.OK
}

// byJoint returns, ascending, the atoms that hold in a state by a joint move. What is legal or terminal does not depend on moves, so that it is evaluated together with what does; moves that are never legal are left out, as the limits would not hold for them.
func (g *Game) byJoint(state, joint []api.Term) ([]api.Term, api.Errno) {
	if e := g.stateError(state); e != api.OK {
		return nil, e
	}
	moves := slices.DeleteFunc(prove.Given(nil, joint, g.roles), func(t api.Term) bool { return term.Find(g.moves, t) < 0 })
	atoms := hold(g.byMoves, slices.Concat(prove.Given(state, nil, nil), moves, g.fixed))
	switch {
	case ends(atoms):
		return nil, api.ErrTerminal
	case !g.permitted(atoms, joint):
		return nil, api.ErrMove
	}
	return atoms, api.OK
}

// permitted reports whether a list is a joint move of a state with some atoms.
func (g *Game) permitted(atoms, joint []api.Term) bool {
	if len(joint) != len(g.roles) {
		return false
	}
	for i, m := range joint {
		legal := api.Term{Name: "legal", Args: []api.Term{g.roles[i], m}}
		if term.Find(atoms, legal) < 0 {
			return false
		}
	}
	return true
}

// ends reports whether a state with some atoms is terminal.
func ends(atoms []api.Term) bool { return term.Find(atoms, api.Term{Name: "terminal"}) >= 0 }

// lastArguments returns the last arguments of the atoms with a relation that begin with some arguments. They are ascending if the atoms are.
func lastArguments(atoms []api.Term, relation string, first ...api.Term) []api.Term {
	var last []api.Term
	for _, t := range atoms {
		if t.Name == relation && len(t.Args) == len(first)+1 && term.CompareList(t.Args[:len(first)], first) == 0 {
			last = append(last, t.Args[len(first)])
		}
	}
	return last
}

// divide returns the atoms with a relation and the others.
func divide(atoms []api.Term, relation string) ([]api.Term, []api.Term) {
	var with, without []api.Term
	for _, t := range atoms {
		if t.Name == relation {
			with = append(with, t)
		} else {
			without = append(without, t)
		}
	}
	return with, without
}

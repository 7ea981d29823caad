package playable

import (
	"slices"

	"gameplayer/api"
	"gameplayer/logic"
)

// firstFlaw returns the first flaw in a valid graph.
func firstFlaw(g *logic.Game, graph api.Graph) (api.Flaw, api.Errno) {
	expanded := make([]bool, len(graph.States))
	for _, s := range graph.Steps {
		expanded[s.From] = true
	}
	for i, s := range graph.States {
		f, e := flawOf(g, s, expanded[i])
		switch {
		case e != api.OK:
			return api.Flaw{}, e
		case f.Kind != api.FlawNone:
			f.State = i
			return f, api.OK
		}
	}
	all := players(g)
	i := slices.IndexFunc(all, func(role int) bool { return !wins(g, graph, role) })
	if i < 0 {
		return api.Flaw{}, api.OK
	}
	return api.Flaw{Kind: api.FlawUnwon, Role: all[i]}, api.OK
}

// flawOf returns the kind and the role of the first flaw of a state.
func flawOf(g *logic.Game, state []api.Term, expanded bool) (api.Flaw, api.Errno) {
	first := api.FlawNoMove
	if ends(g, state) {
		first = api.FlawGoal
	}
	switch first {
	case api.FlawNoMove:
		role, found, e := moveless(g, state)
		switch {
		case e != api.OK:
			return api.Flaw{}, e
		case found:
			return api.Flaw{Kind: api.FlawNoMove, Role: role}, api.OK
		}
		fallthrough // only a state in which every role has a legal move can lack steps
	case api.FlawEndless:
		if !expanded {
			return api.Flaw{Kind: api.FlawEndless}, api.OK
		}
	case api.FlawGoal:
		if role, found := goalless(g, state); found {
			return api.Flaw{Kind: api.FlawGoal, Role: role}, api.OK
		}
	}
	return api.Flaw{}, api.OK
}

// moveless returns the first role without a legal move, unless one before it has an error.
func moveless(g *logic.Game, state []api.Term) (int, bool, api.Errno) {
	for role := range g.Roles() {
		moves, e := g.Legal(state, role)
		switch {
		case e != api.OK:
			return 0, false, e
		case len(moves) == 0:
			return role, true, api.OK
		}
	}
	return 0, false, api.OK
}

// goalless returns the first player without a goal value, or with several.
func goalless(g *logic.Game, state []api.Term) (int, bool) {
	for _, role := range players(g) {
		if _, e := g.Goal(state, role); e != api.OK {
			return role, true
		}
	}
	return 0, false
}

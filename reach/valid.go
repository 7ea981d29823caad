package reach

import (
	"slices"

	"gameplayer/api"
	"gameplayer/logic"
	"gameplayer/printer"
	"gameplayer/term"
)

// Valid reports whether a graph is a graph of the game.
func Valid(g *logic.Game, graph api.Graph) bool {
	if !returned(g) || !statesValid(g, graph) || !inOrder(graph) {
		return false
	}
	rest, complete := graph.Steps, true
	for from, joints := range expandable(g, &graph) {
		count := slices.IndexFunc(rest, func(s api.Step) bool { return s.From != from })
		if count < 0 {
			count = len(rest)
		}
		switch {
		case count == 0:
			complete = false
		case !expanded(g, graph, rest[:count], joints):
			return false
		}
		rest = rest[count:]
	}
	return len(rest) == 0 && graph.Complete == complete // what is left are steps of no such state, or out of order
}

// statesValid reports whether a graph has a permitted number of states, which are different and valid, the initial one first, and as many depths.
func statesValid(g *logic.Game, graph api.Graph) bool {
	count := len(graph.States)
	if count < 1 || count > api.MaxStates || len(graph.Depths) != count {
		return false
	}
	met := map[string]bool{}
	for _, s := range graph.States {
		if !g.Valid(s) || met[printer.Terms(s)] {
			return false
		}
		met[printer.Terms(s)] = true
	}
	return term.CompareList(graph.States[0], g.Initial()) == 0
}

// inOrder reports whether all steps lead from states to states, whose numbers ascend in the order in which they are met first, and whether the depths are as these steps make them.
func inOrder(graph api.Graph) bool {
	count, met := len(graph.States), 1
	for _, s := range graph.Steps {
		if !below(s.From, count) || !below(s.To, count) || s.To > met {
			return false
		}
		if s.To == met {
			if graph.Depths[met] != graph.Depths[s.From]+1 {
				return false
			}
			met++
		}
	}
	return graph.Depths[0] == 0 && met == count
}

func below(i, count int) bool { return i >= 0 && i < count }

// expanded reports whether steps from one state are those for its joint moves.
func expanded(g *logic.Game, graph api.Graph, steps []api.Step, joints [][]api.Term) bool {
	if len(steps) != len(joints) {
		return false
	}
	for i, s := range steps {
		if term.CompareList(s.Joint, joints[i]) != 0 {
			return false
		}
		next, _ := g.Next(graph.States[s.From], joints[i]) // no error, as it is a joint move
		if term.CompareList(graph.States[s.To], next) != 0 {
			return false
		}
	}
	return true
}

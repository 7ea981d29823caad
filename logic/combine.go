package logic

import (
	"gameplayer/api"
	"gameplayer/clone"
)

// combine returns all lists with one of the moves of each role, in lexicographic order if the moves are ascending.
func combine(moves [][]api.Term) [][]api.Term {
	var joints [][]api.Term
	var extend func(chosen []api.Term)
	extend = func(chosen []api.Term) {
		if len(chosen) == len(moves) {
			joints = append(joints, clone.Terms(chosen)) // copies, as the moves are parts of several joint moves
			return
		}
		for _, m := range moves[len(chosen)] {
			extend(append(chosen, m))
		}
	}
	extend(nil)
	return joints
}

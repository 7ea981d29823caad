// Package combine makes joint moves of the legal moves of all roles: of terms for logic, of numbers for machine.
package combine

import "gameplayer/api"

// Moves returns all lists with one of the legal moves of each role, in lexicographic order if the moves are ascending. Each list is what copied returns for it, since moves are parts of several lists. ErrMove if a role has no legal move; ErrTooLarge if there are too many moves of a role or too many lists.
func Moves[M any](legal [][]M, copied func(joint []M) []M) ([][]M, api.Errno) {
	if e := countsError(legal); e != api.OK {
		return nil, e
	}
	var joints [][]M
	var extend func(chosen []M)
	extend = func(chosen []M) {
		if len(chosen) == len(legal) {
			joints = append(joints, copied(chosen))
			return
		}
		for _, m := range legal[len(chosen)] {
			extend(append(chosen, m))
		}
	}
	extend(nil)
	return joints, api.OK
}

// countsError returns the error of the numbers of legal moves of all roles.
func countsError[M any](legal [][]M) api.Errno {
	e, count := api.OK, 1
	for _, l := range legal {
		count = min(count*len(l), api.MaxJoint+1)
		switch {
		case len(l) == 0:
			return api.ErrMove
		case len(l) > api.MaxMoves || count > api.MaxJoint:
			e = api.ErrTooLarge
		}
	}
	return e
}

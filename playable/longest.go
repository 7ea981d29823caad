package playable

import "gameplayer/api"

// Longest returns the number of joint moves of the longest path.
func Longest(graph api.Graph) (int, bool) {
	after, before := links(graph)
	var first []int
	for state, count := range before {
		if count == 0 {
			first = append(first, state)
		}
	}
	rounds, done := 0, 0 // in each round those states are done at which paths of as many steps as rounds before it end, but no longer ones
	for round := first; len(round) > 0; round = follow(round, after, before) {
		rounds++
		done += len(round)
	}
	if done < len(graph.States) { // the others are on a cycle, or behind one
		return 0, false
	}
	return max(rounds-1, 0), true
}

// links returns for each state those to which its steps lead, and how many steps lead to it. Steps from or to numbers that no state has are left out.
func links(graph api.Graph) ([][]int, []int) {
	count := len(graph.States)
	after, before := make([][]int, count), make([]int, count)
	known := func(number int) bool { return number >= 0 && number < count }
	for _, s := range graph.Steps {
		if known(s.From) && known(s.To) {
			after[s.From] = append(after[s.From], s.To)
			before[s.To]++
		}
	}
	return after, before
}

// follow counts off the steps of some states, and returns the states to which no others lead.
func follow(states []int, after [][]int, before []int) []int {
	var free []int
	for _, from := range states {
		for _, to := range after[from] {
			before[to]--
			if before[to] == 0 {
				free = append(free, to)
			}
		}
	}
	return free
}

package strata

import (
	"math"
	"slices"

	"gameplayer/api"
	"gameplayer/depend"
)

// graph has the edges within the groups; edges between groups are in no recursion. Relations are numbered in their order, and so each list of edges is ascending.
type graph struct {
	all     [][]int // edges of both kinds
	negated [][]int
	met     []int // the start of the last search that met the relation
}

// visit is a relation that a search has met: after which visit, and how many relations have led to it.
type visit struct{ relation, before, length int }

// Cycle returns a shortest recursion through a negation.
func Cycle(l []api.Rule) []string {
	names := depend.Relations(l)
	g := within(depend.Edges(l), names)
	var cycle []int
	limit := math.MaxInt
	for start := range names {
		if found := g.search(start, limit); len(found) > 0 {
			cycle, limit = found, len(found)
		}
	}
	var result []string
	for _, i := range cycle {
		result = append(result, names[i])
	}
	return result
}

// within is the graph of the edges whose ends are in one group.
func within(edges []api.Edge, names []string) graph {
	group := map[string]int{}
	for i, members := range depend.Groups(edges, names) {
		for _, name := range members {
			group[name] = i
		}
	}
	number := map[string]int{}
	for i, name := range names {
		number[name] = i
	}
	g := graph{all: make([][]int, len(names)), negated: make([][]int, len(names)), met: make([]int, len(names))}
	for i := range g.met {
		g.met[i] = -1
	}
	for _, e := range edges {
		if group[e.From] != group[e.To] {
			continue
		}
		from, to := number[e.From], number[e.To]
		g.all[from] = append(g.all[from], to)
		if e.Not {
			g.negated[from] = append(g.negated[from], to)
		}
	}
	return g
}

// search returns the first of the shortest recursions that begin with a negated edge of start, or nothing if none has fewer relations than the limit. Breadth first, with ascending edges, each relation is met by the first of its shortest ways.
func (g graph) search(start, limit int) []int {
	visits := []visit{{start, -1, 1}}
	last := -1
search:
	for i := 0; i < len(visits) && visits[i].length < limit; i++ {
		next := g.all[visits[i].relation]
		if i == 0 {
			next = g.negated[start]
		}
		for _, to := range next {
			if to == start {
				last = i
				break search
			}
			if g.met[to] != start {
				g.met[to] = start
				visits = append(visits, visit{to, i, visits[i].length + 1})
			}
		}
	}
	var way []int
	for i := last; i >= 0; i = visits[i].before {
		way = append(way, visits[i].relation)
	}
	slices.Reverse(way)
	return way
}

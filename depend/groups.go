package depend

import (
	"container/heap"
	"slices"
	"sort"

	"gameplayer/api"
)

// graph has, for each number of a name, the numbers of the names on which it depends directly.
type graph [][]int

// Groups returns the strongly connected groups, dependencies first.
func Groups(edges []api.Edge, names []string) [][]string {
	names = slices.Compact(slices.Sorted(slices.Values(names)))
	g := numbered(edges, names)
	group := g.groups()
	list := members(group)
	var result [][]string
	for _, i := range g.joined(group, len(list)).order() {
		var part []string
		for _, k := range list[i] {
			part = append(part, names[k])
		}
		result = append(result, part)
	}
	return result
}

// numbered is the graph of the edges between the names.
func numbered(edges []api.Edge, names []string) graph {
	number := map[string]int{}
	for i, name := range names {
		number[name] = i
	}
	g := make(graph, len(names))
	for _, e := range edges {
		from, known := number[e.From]
		to, also := number[e.To]
		if known && also {
			g[from] = append(g[from], to)
		}
	}
	return g
}

// groups gives each name the number of its group: groups are numbered by their first names.
func (g graph) groups() []int {
	back := g.reversed()
	root := make([]int, len(g))
	for i := range root {
		root[i] = -1
	}
	// Backwards from the name that a search left last one reaches its group only; without the names that have a group already, that goes on.
	for _, i := range slices.Backward(g.finished()) {
		if root[i] < 0 {
			back.mark(root, i)
		}
	}
	numbers := map[int]int{}
	for i, r := range root {
		if _, met := numbers[r]; !met {
			numbers[r] = len(numbers)
		}
		root[i] = numbers[r]
	}
	return root
}

// reversed has the edges in the other direction.
func (g graph) reversed() graph {
	back := make(graph, len(g))
	for i, next := range g {
		for _, k := range next {
			back[k] = append(back[k], i)
		}
	}
	return back
}

// finished lists the names in the order in which a search, depth first, leaves them. The search keeps its path itself, as a recursion might become too deep.
func (g graph) finished() []int {
	var path, done []int
	used := make([]int, len(g)) // how many edges were followed
	met := make([]bool, len(g))
	for start := range g {
		if !met[start] {
			met[start] = true
			path = append(path, start)
		}
		for len(path) > 0 {
			i := path[len(path)-1]
			if used[i] == len(g[i]) {
				done = append(done, i)
				path = path[:len(path)-1]
				continue
			}
			k := g[i][used[i]]
			used[i]++
			if !met[k] {
				met[k] = true
				path = append(path, k)
			}
		}
	}
	return done
}

// mark gives the root to all names that can be reached from it and have none.
func (g graph) mark(root []int, start int) {
	root[start] = start
	for open := []int{start}; len(open) > 0; {
		i := open[len(open)-1]
		open = open[:len(open)-1]
		for _, k := range g[i] {
			if root[k] < 0 {
				root[k] = start
				open = append(open, k)
			}
		}
	}
}

// members lists the names of each group.
func members(group []int) [][]int {
	var list [][]int
	for i, n := range group {
		if n == len(list) {
			list = append(list, nil)
		}
		list[n] = append(list[n], i)
	}
	return list
}

// joined is the graph of the groups, without edges from a group to itself.
func (g graph) joined(group []int, count int) graph {
	whole := make(graph, count)
	for i, next := range g {
		for _, k := range next {
			if group[i] != group[k] {
				whole[group[i]] = append(whole[group[i]], group[k])
			}
		}
	}
	return whole
}

// queue yields the least number first.
type queue struct{ sort.IntSlice }

// Push adds a number; heap calls it.
func (q *queue) Push(x any) {
	if n, ok := x.(int); ok {
		q.IntSlice = append(q.IntSlice, n)
	}
}

// Pop removes the last number; heap calls it.
func (q *queue) Pop() any {
	last := q.Len() - 1
	n := q.IntSlice[last]
	q.IntSlice = q.IntSlice[:last]
	return n
}

// order lists the nodes of a graph without recursion: next comes always the least one all of whose dependencies are listed.
func (g graph) order() []int {
	var list []int
	listed := make([]bool, len(g))
	used := make([]int, len(g))      // how many edges lead to listed nodes, as far as was looked
	waiting := make([][]int, len(g)) // for each node those that wait for it
	open := &queue{}
	for i := range g {
		heap.Push(open, i)
	}
search:
	for open.Len() > 0 {
		i, _ := heap.Pop(open).(int)
		for ; used[i] < len(g[i]); used[i]++ {
			if k := g[i][used[i]]; !listed[k] {
				waiting[k] = append(waiting[k], i)
				continue search
			}
		}
		list, listed[i] = append(list, i), true
		for _, k := range waiting[i] {
			heap.Push(open, k)
		}
	}
	return list
}

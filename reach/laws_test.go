package reach_test

import (
	"fmt"
	"math/rand/v2"
	"slices"
	"testing"

	"gameplayer/api"
	"gameplayer/logic"
	"gameplayer/printer"
	"gameplayer/reach"
	"gameplayer/sample"
	"gameplayer/term"
)

func equal(a, b []api.Term) bool { return term.CompareList(a, b) == 0 }

// canExpand reports whether a state is not terminal and every role has a legal move.
func canExpand(g *logic.Game, state []api.Term) bool {
	ends, _ := g.Terminal(state)
	for role := range g.Roles() {
		legal, e := g.Legal(state, role)
		ends = ends || len(legal) == 0 && e == api.OK
	}
	return !ends
}

// index is the number of a state in a list, or -1.
func index(states [][]api.Term, state []api.Term) int {
	return slices.IndexFunc(states, func(s []api.Term) bool { return equal(s, state) })
}

// explored is the graph that has the steps of those states that are wanted.
func explored(g *logic.Game, wanted func(depth int) bool) api.Graph {
	x := api.Graph{States: [][]api.Term{g.Initial()}, Depths: []int{0}, Complete: true}
	for from := 0; from < len(x.States); from++ {
		state := x.States[from]
		if !canExpand(g, state) {
			continue
		}
		if !wanted(x.Depths[from]) {
			x.Complete = false
			continue
		}
		l, _ := g.Joints(state)
		for _, j := range l {
			next, _ := g.Next(state, j)
			to := index(x.States, next)
			if to < 0 {
				to = len(x.States)
				x.States = append(x.States, next)
				x.Depths = append(x.Depths, x.Depths[from]+1)
			}
			x.Steps = append(x.Steps, api.Step{From: from, Joint: j, To: to})
		}
	}
	return x
}

// anyGame makes a game, for the most part with joint moves in the initial state.
func anyGame(r *rand.Rand) *logic.Game {
	for {
		l := sample.AnyWalk(r.IntN)
		if r.IntN(2) == 0 {
			l = sample.Any(r.IntN)
		}
		g, e := logic.New(l)
		if e != api.OK {
			panic(e)
		}
		first, _ := g.Joints(g.Initial())
		if len(first) < 20 && (len(first) > 0 || r.IntN(10) == 0) {
			return g
		}
	}
}

// P18.1, P18.6: graphs as they are defined; they are valid, and each state is reached by its path.
func TestGraphsAgainstDefinition(t *testing.T) {
	r := rand.New(rand.NewPCG(18, 1))
	large, complete := 0, 0
	for range 200 {
		g := anyGame(r)
		depth := r.IntN(6)
		want := explored(g, func(d int) bool { return d < depth })
		x, e := reach.Graph(g, depth)
		if len(want.States) > api.MaxStates {
			if e != api.ErrTooLarge {
				t.Fatal(g.Rules(), depth, e)
			}
			continue
		}
		if e != api.OK || show(x) != show(want) || !reach.Valid(g, x) {
			t.Fatalf("%v: Graph to %d is %s, %d, want %s", g.Rules(), depth, show(x), e, show(want))
		}
		for i, s := range x.States {
			path, ok := reach.Path(x, i)
			if !ok || len(path) != x.Depths[i] || reach.Find(x, s) != i {
				t.Fatalf("%v: Path to %d is %s, %v", g.Rules(), i, list(path), ok)
			}
			if got, n, e := reach.Play(g, path); !equal(got, s) || n != len(path) || e != api.OK {
				t.Fatalf("%v: the path to %s leads to %s, %d", g.Rules(), printer.Terms(s), printer.Terms(got), e)
			}
		}
		large += min(len(x.States)/8, 1)
		complete += map[bool]int{true: 1}[x.Complete]
	}
	if large < 20 || complete < 50 || complete > 160 {
		t.Error(large, complete)
	}
}

// P18.7: a graph begins with those to smaller depths, and has every state that a course of at most as many joint moves reaches.
func TestDeeperGraphs(t *testing.T) {
	r := rand.New(rand.NewPCG(18, 7))
	longer, steps := 0, 0
	for range 50 {
		g := anyGame(r)
		before, e := reach.Graph(g, 0)
		for depth := 1; depth < 5 && e == api.OK; depth++ {
			var x api.Graph
			if x, e = reach.Graph(g, depth); e != api.OK {
				break
			}
			short := api.Graph{Steps: x.Steps[:min(len(before.Steps), len(x.Steps))]}
			short.States, short.Depths = x.States[:min(len(before.States), len(x.States))], x.Depths[:min(len(before.Depths), len(x.Depths))]
			short.Complete = before.Complete
			if show(short) != show(before) || before.Complete && (!x.Complete || len(x.States) > len(before.States)) {
				t.Fatalf("%v: %s and then %s", g.Rules(), show(before), show(x))
			}
			state := g.Initial()
			for range depth {
				l, _ := g.Joints(state)
				if len(l) == 0 {
					break
				}
				state, _ = g.Next(state, l[r.IntN(len(l))])
				if reach.Find(x, state) < 0 {
					t.Fatalf("%v: %s is not in %s", g.Rules(), printer.Terms(state), show(x))
				}
				steps++
			}
			longer += min(len(x.States)-len(before.States), 1)
			before = x
		}
	}
	if longer < 40 || steps < 100 {
		t.Error(longer, steps)
	}
}

// isGraph reports whether a graph is one of a game, condition by condition.
func isGraph(g *logic.Game, x api.Graph) bool {
	count := len(x.States)
	if count < 1 || count > 256 || len(x.Depths) != count || !equal(x.States[0], g.Initial()) || x.Depths[0] != 0 {
		return false
	}
	for i, s := range x.States {
		if !g.Valid(s) || index(x.States, s) != i {
			return false
		}
	}
	from := func(a, b api.Step) int { return a.From - b.From }
	if !slices.IsSortedFunc(x.Steps, from) {
		return false
	}
	met := []int{0}
	for _, s := range x.Steps {
		if s.From < 0 || s.From >= count || s.To < 0 || s.To >= count {
			return false
		}
		if !slices.Contains(met, s.To) {
			met = append(met, s.To)
			if x.Depths[s.To] != x.Depths[s.From]+1 {
				return false
			}
		}
	}
	complete := true
	for i, s := range x.States {
		if len(met) != count || met[i] != i {
			return false
		}
		steps := slices.DeleteFunc(slices.Clone(x.Steps), func(s api.Step) bool { return s.From != i })
		if len(steps) == 0 {
			complete = complete && !canExpand(g, s)
			continue
		}
		l, e := g.Joints(s)
		if e != api.OK || len(l) != len(steps) {
			return false
		}
		for j := range l {
			next, _ := g.Next(s, l[j])
			if !equal(l[j], steps[j].Joint) || steps[j].To != index(x.States, next) {
				return false
			}
		}
	}
	return x.Complete == complete
}

// change changes something about a graph.
func change(r *rand.Rand, x *api.Graph) {
	i, k := r.IntN(len(x.States)), r.IntN(len(x.States))
	switch r.IntN(14) {
	case 0:
		x.Complete = !x.Complete
	case 1:
		x.States[i], x.States[k] = x.States[k], x.States[i]
	case 2:
		x.States[i] = slices.Concat(x.States[i], terms("a"))
	case 3:
		x.States, x.Depths = append(x.States, x.States[i][:len(x.States[i])/2]), append(x.Depths, x.Depths[i])
	case 4:
		x.Depths[i] += r.IntN(3) - 1
	case 5:
		if len(x.States) > 1 {
			x.States, x.Depths = x.States[:len(x.States)-1], x.Depths[:len(x.Depths)-1]
		}
	default:
		changeSteps(r, x, i)
	}
}

// changeSteps changes something about the steps of a graph. A number of a state is given.
func changeSteps(r *rand.Rand, x *api.Graph, state int) {
	if len(x.Steps) == 0 {
		return
	}
	i := r.IntN(len(x.Steps))
	k := (i + r.IntN(2)) % len(x.Steps)
	s := &x.Steps[i]
	from := s.From
	switch r.IntN(9) {
	case 0:
		x.Steps[i], x.Steps[k] = x.Steps[k], x.Steps[i]
	case 1:
		s.From = state + r.IntN(3) - 1
	case 2:
		s.To = state
	case 3:
		s.To += r.IntN(3) - 1
	case 4:
		x.Steps = slices.Delete(x.Steps, i, i+1)
	case 5:
		x.Steps = slices.Insert(x.Steps, i, *s)
	case 6:
		s.Joint = x.Steps[k].Joint
	case 7:
		s.Joint = append(slices.Clone(s.Joint), s.Joint[0])
	case 8: // all steps of a state, which may leave a valid graph
		x.Steps = slices.DeleteFunc(x.Steps, func(s api.Step) bool { return s.From == from })
		x.Complete = false
	}
}

// P18.5: partly expanded graphs, and changed ones, against the definition
func TestValidAgainstDefinition(t *testing.T) {
	r := rand.New(rand.NewPCG(18, 5))
	valid, others, stillValid := 0, 0, 0
	for range 40 {
		g := anyGame(r)
		for range 8 {
			odds := 1 + r.IntN(4)
			left := 6
			x := explored(g, func(int) bool { left--; return left >= 0 && r.IntN(odds+1) > 0 })
			if len(x.States) > 60 {
				continue
			}
			if !reach.Valid(g, x) || !isGraph(g, x) {
				t.Fatalf("%v: %s is not valid", g.Rules(), show(x))
			}
			valid++
			for range 12 {
				y := api.Graph{States: slices.Clone(x.States), Depths: slices.Clone(x.Depths), Steps: slices.Clone(x.Steps), Complete: x.Complete}
				for range 1 + r.IntN(2) {
					change(r, &y)
				}
				got := reach.Valid(g, y)
				if want := isGraph(g, y); got != want {
					t.Fatalf("%v: Valid(%s) is %v", g.Rules(), show(y), got)
				}
				switch {
				case !got:
					others++
				case fmt.Sprint(x) != fmt.Sprint(y):
					stillValid++
				}
			}
		}
	}
	if valid < 200 || others < 1500 || stillValid < 20 {
		t.Error(valid, others, stillValid)
	}
}

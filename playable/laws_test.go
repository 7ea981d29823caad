package playable_test

import (
	"math/rand/v2"
	"slices"
	"testing"

	"gameplayer/api"
	"gameplayer/logic"
	"gameplayer/playable"
	"gameplayer/reach"
	"gameplayer/sample"
)

// anyGame makes a game, without too many joint moves in the initial state.
func anyGame(r *rand.Rand) *logic.Game {
	for {
		l := sample.AnyDuel(r.IntN, r.IntN(2) == 0)
		if r.IntN(3) == 0 {
			l = sample.Any(r.IntN)
		}
		g, e := logic.New(l)
		if e != api.OK {
			panic(e)
		}
		if first, _ := g.Joints(g.Initial()); len(first) < 10 {
			return g
		}
	}
}

// anyGraph makes a valid graph, some of whose states may lack their steps.
func anyGraph(r *rand.Rand, g *logic.Game) api.Graph {
	x := api.Graph{States: [][]api.Term{g.Initial()}, Depths: []int{0}, Complete: true}
	odds := r.IntN(4)
	for from := 0; from < len(x.States); from++ {
		joints, e := g.Joints(x.States[from])
		if e == api.ErrTerminal || e == api.ErrMove {
			continue
		}
		if len(x.States)+len(joints) > 30 || r.IntN(8) < odds {
			x.Complete = false
			continue
		}
		for _, j := range joints {
			next, _ := g.Next(x.States[from], j)
			to := reach.Find(x, next)
			if to < 0 {
				to = len(x.States)
				x.States, x.Depths = append(x.States, next), append(x.Depths, x.Depths[from]+1)
			}
			x.Steps = append(x.Steps, api.Step{From: from, Joint: j, To: to})
		}
	}
	return x
}

// survey is what holds in a graph, by the definitions.
type survey struct {
	flaws   []api.Flaw // all of them, in order
	won     [4]bool    // by role
	sums    []int      // of the terminal states; -1 stands for none
	choices bool       // in some state two roles have them
}

func look(g *logic.Game, x api.Graph) survey {
	var s survey
	for i, state := range x.States {
		ends, _ := g.Terminal(state)
		movable, chooser, sum := true, 0, 0
		for role := range g.Roles() {
			legal, _ := g.Legal(state, role)
			value, e := g.Goal(state, role)
			switch {
			case !ends && len(legal) == 0:
				s.flaws = append(s.flaws, noMove(i, role))
				movable = false
			case ends && role != g.Chance() && e != api.OK:
				s.flaws = append(s.flaws, noGoal(i, role))
				sum = -1000
			case ends && role != g.Chance():
				s.won[role] = s.won[role] || value == 100
				sum += value
			}
			if len(legal) > 1 {
				chooser++
			}
		}
		switch {
		case ends:
			s.sums = append(s.sums, max(sum, -1))
		case movable && !slices.ContainsFunc(x.Steps, func(s api.Step) bool { return s.From == i }):
			s.flaws = append(s.flaws, endless(i))
		}
		s.choices = s.choices || !ends && chooser > 1
	}
	for role := range g.Roles() {
		if role != g.Chance() && !s.won[role] {
			s.flaws = append(s.flaws, unwon(role))
		}
	}
	return s
}

// P19.1, P19.3, P19.4, P19.6: what is found in graphs of random games, against the definitions; a flaw that is found is the first one of all.
func TestGraphsAgainstDefinitions(t *testing.T) {
	r := rand.New(rand.NewPCG(19, 1))
	var kinds [5]int
	winnable, sums, turns, unlike := 0, 0, 0, 0
	for range 500 {
		g := anyGame(r)
		x := anyGraph(r, g)
		s := look(g, x)
		f, e := playable.Graph(g, x)
		if e != api.OK || f != append(s.flaws, api.Flaw{})[0] {
			t.Fatalf("%v: %v, %d, want the first one of %v", g.Rules(), f, e, s.flaws)
		}
		kinds[f.Kind]++
		for role := range g.Roles() {
			want := map[bool]api.Errno{true: api.ErrRole}[role == g.Chance()]
			if ok, e := playable.Winnable(g, x, role); ok != s.won[role] || e != want {
				t.Fatalf("%v: Winnable of %d is %v, %d", g.Rules(), role, ok, e)
			}
			winnable += map[bool]int{true: 1}[s.won[role]]
		}
		wantSum, wantOK := 0, len(s.sums) > 0 && slices.Min(s.sums) == slices.Max(s.sums) && s.sums[0] >= 0
		if wantOK {
			wantSum = s.sums[0]
			sums += min(len(s.sums)-1, 1)
		} else {
			unlike += min(len(s.sums), 1)
		}
		if got, ok, e := playable.Sum(g, x); got != wantSum || ok != wantOK || e != api.OK {
			t.Fatalf("%v: Sum %d, %v, %d, want %v", g.Rules(), got, ok, e, s.sums)
		}
		if got, e := playable.Turns(g, x); got == s.choices || e != api.OK {
			t.Fatalf("%v: Turns %v, %d", g.Rules(), got, e)
		}
		turns += map[bool]int{true: 1}[s.choices]
	}
	if slices.Min(kinds[:]) < 15 || winnable < 100 || sums < 20 || unlike < 50 || turns < 100 || turns > 400 {
		t.Error(kinds, winnable, sums, unlike, turns)
	}
}

// P19.2: Check explores, and then does what Graph does.
func TestCheckAgainstGraph(t *testing.T) {
	r := rand.New(rand.NewPCG(19, 2))
	var kinds [5]int
	for range 400 {
		g, depth := anyGame(r), r.IntN(6)
		x, want := reach.Graph(g, depth)
		var flaw api.Flaw
		if want == api.OK {
			flaw, want = playable.Graph(g, x)
		}
		if f, e := playable.Check(g, depth); f != flaw || e != want {
			t.Fatalf("%v: Check to %d is %v, %d, want %v, %d", g.Rules(), depth, f, e, flaw, want)
		}
		kinds[flaw.Kind]++
	}
	if slices.Min(kinds[:]) < 10 {
		t.Error(kinds)
	}
}

// P19.6: in a complete graph in which nothing is found, there are a legal move of each role and steps in every state that is not terminal, and a goal value of each player in every other one.
func TestFlawless(t *testing.T) {
	r := rand.New(rand.NewPCG(19, 6))
	flawless := 0
	for range 400 {
		g := anyGame(r)
		x, _ := reach.Graph(g, 16)
		if f, e := playable.Graph(g, x); f != (api.Flaw{}) || e != api.OK {
			continue
		}
		flawless++
		state := g.Initial()
		for range 30 {
			joints, e := g.Joints(state)
			if e == api.ErrTerminal {
				break
			}
			if e != api.OK {
				t.Fatalf("%v: %d in %v", g.Rules(), e, state)
			}
			state, _ = g.Next(state, joints[r.IntN(len(joints))])
		}
		for role := range g.Roles() {
			ends, _ := g.Terminal(state)
			if _, e := g.Goal(state, role); ends && role != g.Chance() && e != api.OK {
				t.Fatalf("%v: %d has no goal value in %v", g.Rules(), role, state)
			}
		}
	}
	if flawless < 20 {
		t.Error(flawless)
	}
}

// course returns the greatest number of joint moves of a course from a state, and checks the sum of the goal values at its end.
func course(t *testing.T, g *logic.Game, state []api.Term, sum int, same bool) int {
	joints, e := g.Joints(state)
	if total := look(g, api.Graph{States: [][]api.Term{state}}).sums; e == api.ErrTerminal && same && total[0] != sum {
		t.Fatalf("%v: the sum is %v, not %d, in %v", g.Rules(), total, sum, state)
	}
	longest := 0
	for _, j := range joints {
		next, _ := g.Next(state, j)
		longest = max(longest, 1+course(t, g, next, sum, same))
	}
	return longest
}

// P19.7: the courses of games that end
func TestCourses(t *testing.T) {
	r := rand.New(rand.NewPCG(19, 7))
	var lengths [8]int
	sums := 0
	for range 150 {
		g, e := logic.New(sample.AnyDuel(r.IntN, true))
		if e != api.OK {
			t.Fatal(e)
		}
		x, e := reach.Graph(g, 16)
		longest, ok := playable.Longest(x)
		sum, same, _ := playable.Sum(g, x)
		if !x.Complete || !ok || e != api.OK {
			t.Fatalf("%v: Longest is %d, %v, %d", g.Rules(), longest, ok, e)
		}
		if want := course(t, g, g.Initial(), sum, same); longest != want {
			t.Fatalf("%v: Longest is %d, want %d", g.Rules(), longest, want)
		}
		lengths[longest]++
		sums += map[bool]int{true: 1}[same]
	}
	if lengths[1] < 10 || lengths[2] < 10 || lengths[3] < 10 || lengths[4] < 5 || sums < 20 || sums > 130 {
		t.Error(lengths, sums)
	}
}

// walks returns the greatest number of steps that follow one another, if there are fewer than one more than there are states.
func walks(count int, all []api.Step) (int, bool) {
	here := make([]bool, count) // where walks of so many steps may end
	for i := range here {
		here[i] = true
	}
	for length := 0; length <= count; length++ {
		next := make([]bool, count)
		for _, s := range all {
			if s.From >= 0 && s.From < count && s.To >= 0 && s.To < count && here[s.From] {
				next[s.To] = true
			}
		}
		if !slices.Contains(next, true) {
			return length, true
		}
		here = next
	}
	return 0, false
}

// P19.5: any graphs
func TestLongestAgainstDefinition(t *testing.T) {
	r := rand.New(rand.NewPCG(19, 5))
	cycles, long := 0, 0
	for range 5000 {
		count := 1 + r.IntN(7)
		x := api.Graph{States: make([][]api.Term, count)}
		order := r.Perm(count + 2)
		for range r.IntN(30) {
			s := api.Step{From: r.IntN(count+2) - 1, To: r.IntN(count+2) - 1}
			if order[s.From+1] < order[s.To+1] || r.IntN(40) == 0 { // few cycles
				x.Steps = append(x.Steps, s)
			}
		}
		want, wantOK := walks(count, x.Steps)
		if got, ok := playable.Longest(x); got != want || ok != wantOK {
			t.Fatalf("Longest of %d states and %v is %d, %v, want %d, %v", count, x.Steps, got, ok, want, wantOK)
		}
		cycles += map[bool]int{false: 1}[wantOK]
		long += map[bool]int{true: 1}[want > 2]
	}
	if cycles < 200 || long < 200 {
		t.Error(cycles, long)
	}
}

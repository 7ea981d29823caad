package playable_test

import (
	"slices"
	"testing"

	"gameplayer/api"
	"gameplayer/logic"
	"gameplayer/playable"
	"gameplayer/sample"
)

// P19.3
func TestWinnable(t *testing.T) {
	const tossed = toss + coin + "legal(x,a). "
	for _, c := range []struct {
		rules string
		depth int
		role  int
		want  bool
		e     api.Errno
	}{
		{sample.Lamp, 1, 0, true, api.OK}, {sample.Lamp, 1, 1, false, api.OK}, {sample.Lamp, 0, 0, false, api.OK}, {sample.Lamp, 1, 2, false, api.ErrRole}, {sample.Lamp, 1, -1, false, api.ErrRole}, {sample.Lamp, 1, 1 << 62, false, api.ErrRole}, {sample.Lamp, 1, -1 << 63, false, api.ErrRole},
		{tossed + "terminal if true(heads). goal(x,100).", 1, 1, true, api.OK}, {tossed + "terminal if true(heads). goal(x,100).", 0, 1, false, api.OK}, {tossed + "terminal if true(heads). goal(x,100) if true(tails).", 2, 1, false, api.OK}, {tossed + "terminal if true(tails). goal(x,100) if true(tails).", 1, 1, true, api.OK}, {tossed + "terminal if not true(s). goal(x,100) if true(tails). goal(x,0) if true(heads).", 1, 1, true, api.OK},
		{tossed + "terminal if true(heads). goal(x,100). goal(chance,100).", 1, 0, false, api.ErrRole}, {"role(x). role(chance). role(y). terminal. goal(y,100).", 0, 2, true, api.OK}, {"role(x). role(chance). role(y). terminal. goal(y,100).", 0, 1, false, api.ErrRole}, {"role(x). role(chance). role(y). terminal. goal(y,100).", 0, 0, false, api.OK},
		{one + "terminal. goal(x,99).", 0, 0, false, api.OK}, {one + "terminal. goal(x,100). goal(x,99).", 0, 0, false, api.OK}, {one + "terminal. goal(x,101).", 0, 0, false, api.OK}, {one + "terminal.", 0, 0, false, api.OK}, {one + "goal(x,100).", 0, 0, false, api.OK}, {one + "terminal. goal(x,100).", 0, 0, true, api.OK},
	} {
		g := game(c.rules)
		if got, e := playable.Winnable(g, graph(g, c.depth), c.role); got != c.want || e != c.e {
			t.Errorf("%s: Winnable to %d of %d is %v, %d, want %v, %d", c.rules, c.depth, c.role, got, e, c.want, c.e)
		}
	}
}

// P19.4
func TestSum(t *testing.T) {
	const tossed = toss + "role(y). " + coin + "legal(x,a). legal(y,a). terminal if not true(s). "
	for _, c := range []struct {
		rules string
		depth int
		want  int
		ok    bool
	}{
		{sample.Lamp, 1, 100, true}, {sample.Lamp, 0, 0, false}, {one + "terminal. goal(x,0).", 0, 0, true}, {one + "goal(x,50).", 0, 0, false}, {one + "terminal. goal(x,50).", 3, 50, true}, {one + "terminal.", 0, 0, false}, {one + "terminal. goal(x,1). goal(x,2).", 0, 0, false}, {one + "terminal. goal(x,7). goal(x,700).", 0, 7, true},
		{two + "terminal. goal(R,100) if role(R).", 0, 200, true}, {two + "terminal. goal(x,100).", 0, 0, false}, {two + "terminal. goal(y,100).", 0, 0, false}, {toss + "terminal. goal(x,30). goal(chance,20).", 0, 30, true}, {toss + "terminal. goal(x,30). goal(chance,20). goal(chance,30).", 0, 30, true},
		{tossed + "goal(x,100) if true(heads). goal(x,0) if true(tails). goal(y,0) if true(heads). goal(y,100) if true(tails).", 1, 100, true}, {tossed + "goal(x,100) if true(heads). goal(x,0) if true(tails). goal(y,0).", 1, 0, false}, {tossed + "goal(x,0) if true(heads). goal(x,100) if true(tails). goal(y,0).", 1, 0, false}, {tossed + "goal(x,100) if true(heads). goal(x,0) if true(tails). goal(y,0).", 0, 0, false},
		{tossed + "goal(x,50). goal(y,50) if true(heads).", 1, 0, false}, {tossed + "goal(x,50). goal(y,50) if true(tails).", 1, 0, false}, {tossed + "goal(x,40). goal(y,20). goal(y,20) if true(heads).", 1, 60, true}, {tossed + "goal(x,40). goal(y,20). goal(y,21) if true(tails).", 1, 0, false},
		{toss + coin + "legal(x,a). terminal if true(heads). goal(x,10) if true(heads). goal(x,20) if not true(heads).", 1, 10, true}, {toss + coin + "legal(x,a). terminal if true(tails). goal(x,10) if true(heads). goal(x,20) if not true(heads).", 2, 20, true},
	} {
		g := game(c.rules)
		if got, ok, e := playable.Sum(g, graph(g, c.depth)); got != c.want || ok != c.ok || e != api.OK {
			t.Errorf("%s: Sum to %d is %d, %v, %d, want %d, %v", c.rules, c.depth, got, ok, e, c.want, c.ok)
		}
	}
}

// P19.4
func TestTurns(t *testing.T) {
	const pair = "legal(x,a). legal(x,b). legal(y,a). legal(y,b) if true(t). " // both have a choice in t
	const tossed = "role(x). role(chance). role(y). init(u). legal(x,a). legal(y,a). legal(chance,t). legal(chance,s). next(S) if does(chance,S). "
	for _, c := range []struct {
		rules string
		depth int
		want  bool
		e     api.Errno
	}{
		{sample.Lamp, 0, true, api.OK}, {sample.Lamp, 16, true, api.OK}, {sample.Noughts, 1, true, api.OK}, {sample.Coin, 0, true, api.OK}, {sample.Coin, 1, false, api.OK}, {one, 3, true, api.OK}, {two, 3, true, api.OK}, {one + choices("x", 64), 0, true, api.OK},
		{two + pair, 0, true, api.OK}, {two + pair + on, 0, true, api.OK}, {two + pair + on, 1, false, api.OK}, {two + pair + on + end, 1, true, api.OK}, {two + "legal(x,a). legal(x,b). legal(y,a). legal(y,b).", 0, false, api.OK}, {two + "legal(x,a). legal(x,b). legal(y,a). legal(y,b). terminal.", 0, true, api.OK}, {"role(x). role(y). role(z). legal(x,a). legal(y,a). legal(y,b). legal(z,a). legal(z,b).", 0, false, api.OK}, {"role(x). role(y). role(z). legal(y,a). legal(y,b). legal(z,a). legal(z,b).", 0, false, api.OK},
		{toss + "legal(chance,a). legal(chance,b). legal(x,a). legal(x,b).", 0, false, api.OK}, {toss + "legal(chance,a). legal(chance,b). legal(x,a).", 0, true, api.OK}, {toss + "legal(chance,a). legal(x,a). legal(x,b).", 0, true, api.OK}, {tossed, 1, true, api.OK}, {tossed + "legal(x,b) if true(t).", 1, false, api.OK}, {tossed + "legal(x,b) if true(s).", 1, false, api.OK},
		{one + choices("x", 65), 0, false, api.ErrTooLarge}, {two + "legal(x,a). legal(x,b). " + choices("y", 65), 0, false, api.ErrTooLarge}, {two + choices("y", 65), 0, false, api.ErrTooLarge}, {two + choices("y", 65) + "terminal.", 0, true, api.OK}, {toss + choices("chance", 65), 0, false, api.ErrTooLarge},
		{tossed + choices("y", 65), 0, true, api.OK}, {tossed + choices("y", 65), 1, false, api.ErrTooLarge}, {tossed + choices("y", 65) + "terminal if true(s).", 1, true, api.OK},
		{tossed + "legal(x,b) if true(u). " + choices("y", 65), 0, false, api.OK}, {tossed + "legal(x,b) if true(u). " + choices("y", 65), 1, false, api.ErrTooLarge}, {tossed + "legal(x,b) if true(t). legal(x,c) if true(t). " + choices("x", 65), 1, false, api.ErrTooLarge},
	} {
		g := game(c.rules)
		if got, e := playable.Turns(g, graph(g, c.depth)); got != c.want || e != c.e {
			t.Errorf("%.200s: Turns to %d is %v, %d, want %v, %d", c.rules, c.depth, got, e, c.want, c.e)
		}
	}
}

// steps makes a graph of a number of states from pairs of numbers.
func steps(states int, pairs ...int) api.Graph {
	x := api.Graph{States: make([][]api.Term, states)}
	for p := range slices.Chunk(pairs, 2) {
		x.Steps = append(x.Steps, api.Step{From: p[0], To: p[1]})
	}
	return x
}

// P19.5
func TestLongest(t *testing.T) {
	for i, c := range []struct {
		x    api.Graph
		want int
		ok   bool
	}{
		{api.Graph{}, 0, true}, {steps(0, 0, 0, 0, 1), 0, true}, {steps(1), 0, true}, {steps(5), 0, true}, {steps(1, 0, 0), 0, false}, {steps(2, 0, 1), 1, true}, {steps(2, 1, 0), 1, true}, {steps(2, 0, 1, 1, 0), 0, false}, {steps(2, 0, 1, 0, 1, 0, 1), 1, true}, {steps(2, 0, 1, 1, 1), 0, false},
		{steps(3, 0, 1, 1, 2), 2, true}, {steps(3, 1, 2, 0, 1), 2, true}, {steps(3, 2, 1, 1, 0), 2, true}, {steps(3, 0, 1, 0, 2), 1, true}, {steps(3, 0, 2, 1, 2), 1, true}, {steps(3, 0, 2, 0, 1, 1, 2), 2, true}, {steps(3, 0, 1, 1, 2, 0, 2), 2, true}, {steps(3, 0, 1, 2, 2), 0, false}, {steps(3, 0, 1, 1, 2, 2, 0), 0, false}, {steps(4, 0, 1, 1, 2, 2, 1, 2, 3), 0, false}, {steps(4, 0, 1, 2, 3, 3, 2), 0, false}, {steps(4, 3, 0, 1, 2, 2, 1), 0, false},
		{steps(4, 0, 1, 2, 3), 1, true}, {steps(5, 0, 1, 2, 3, 3, 4), 2, true}, {steps(6, 0, 1, 1, 2, 0, 3, 3, 4, 4, 2, 2, 5), 4, true}, {steps(6, 5, 0, 4, 5, 3, 4, 2, 3, 1, 2), 5, true},
		{steps(3, 0, 1, 1, 2, 0, 7), 2, true}, {steps(3, 0, 1, 1, 3, 3, 2), 1, true}, {steps(3, 0, 3, 3, 1, 1, 2), 1, true}, {steps(2, 3, 3, 0, 1), 1, true}, {steps(2, 2, 2), 0, true}, {steps(2, -1, -1, 0, 1), 1, true}, {steps(2, -1, 0, 1, -1), 0, true}, {steps(3, 0, -1, -1, 1), 0, true}, {steps(2, 1<<62, 0, 0, -1<<63), 0, true},
	} {
		if got, ok := playable.Longest(c.x); got != c.want || ok != c.ok {
			t.Errorf("%d: Longest is %d, %v, want %d, %v", i, got, ok, c.want, c.ok)
		}
	}
}

// P19.5: graphs of games
func TestLongestOfGames(t *testing.T) {
	for _, c := range []struct {
		rules       string
		depth, want int
		ok          bool
	}{
		{sample.Lamp, 0, 0, true}, {sample.Lamp, 1, 0, false}, {sample.Coin, 0, 0, true}, {sample.Coin, 1, 1, true}, {sample.Coin, 16, 2, true}, {sample.Noughts, 2, 2, true}, {one + moves + on, 1, 1, true}, {one + moves + on, 2, 2, true}, {one + moves + on + "next(t).", 2, 0, false},
	} {
		if got, ok := playable.Longest(graph(game(c.rules), c.depth)); got != c.want || ok != c.ok {
			t.Errorf("%s: Longest to %d is %d, %v, want %d, %v", c.rules, c.depth, got, ok, c.want, c.ok)
		}
	}
}

// R1, P19.5: as long a chain as may be wanted, and as many ways
func TestLongestOfLargeGraphs(t *testing.T) {
	const count = 1 << 20
	x := api.Graph{States: make([][]api.Term, count)}
	for i := range count - 1 {
		x.Steps = append(x.Steps, api.Step{From: i, To: i + 1}, api.Step{From: i, To: min(i+2, count-1)})
	}
	if got, ok := playable.Longest(x); got != count-1 || !ok {
		t.Error(got, ok)
	}
	x.Steps = append(x.Steps, api.Step{From: count - 1, To: 0})
	if got, ok := playable.Longest(x); got != 0 || ok {
		t.Error(got, ok)
	}
}

// R5: arguments are not modified, nor is their spare capacity.
func TestArguments(t *testing.T) {
	for _, rules := range []string{sample.Lamp, sample.Coin, toss + coin + "legal(x,f(g(a))). terminal if true(heads). goal(x,100)."} {
		g := game(rules)
		x := sample.RoomyGraph(graph(g, 16))
		before := sample.ShowGraph(x)
		for range 2 {
			f, e := playable.Graph(g, x)
			first, e1 := playable.Check(g, 16)
			_, e2 := playable.Winnable(g, x, len(g.Roles())-1)
			_, _, e3 := playable.Sum(g, x)
			_, e4 := playable.Turns(g, x)
			playable.Longest(x)
			if f != first || e != api.OK || e1 != api.OK || e2 != api.OK || e3 != api.OK || e4 != api.OK {
				t.Error(f, first, e, e1, e2, e3, e4)
			}
			if sample.ShowGraph(x) != before {
				t.Fatal("the graph has changed")
			}
		}
	}
}

// R1: any values
func TestAnyValues(t *testing.T) {
	far := api.Term{Name: "a"}
	for range 1 << 16 {
		far = api.Term{Name: "f", Args: []api.Term{far}}
	}
	odd := [][]api.Term{nil, {}, {{}}, {{Name: "X"}}, {{Name: "s"}}, {far}, {far, far}, make([]api.Term, 1<<16)}
	numbers := []int{0, 1, 2, -1, 1<<63 - 1, -1 << 63}
	for _, g := range []*logic.Game{nil, {}, game(sample.Lamp)} {
		for _, depth := range numbers {
			playable.Check(g, depth)
		}
		for i, state := range odd {
			for _, number := range numbers {
				x := api.Graph{States: [][]api.Term{g.Initial(), state}, Depths: []int{0, number}, Steps: []api.Step{{From: number, Joint: odd[i/2], To: 1}, {From: 1, Joint: state, To: number}}}
				_, e := playable.Graph(g, x)
				_, e1 := playable.Winnable(g, x, number)
				_, _, e2 := playable.Sum(g, x)
				_, e3 := playable.Turns(g, x)
				playable.Longest(x)
				if e != api.ErrInvalid || e1 != e || e2 != e || e3 != e {
					t.Error(i, number, e, e1, e2, e3)
				}
			}
		}
	}
}

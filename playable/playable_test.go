package playable_test

import (
	"fmt"
	"slices"
	"testing"

	"gameplayer/api"
	"gameplayer/logic"
	"gameplayer/playable"
	"gameplayer/reach"
	"gameplayer/sample"
)

// game makes a game from its description.
func game(text string) *logic.Game {
	g, e := logic.New(sample.Rules(text))
	if e != api.OK {
		panic(text)
	}
	return g
}

// graph explores a game.
func graph(g *logic.Game, depth int) api.Graph {
	x, e := reach.Graph(g, depth)
	if e != api.OK {
		panic(e)
	}
	return x
}

// choices are n legal moves of a role in the state s, in few rules.
func choices(role string, n int) string {
	text := ""
	for i := range 8 {
		text += fmt.Sprintf("digit(%d). ", i)
	}
	for i := range n / 8 {
		text += fmt.Sprintf("legal(%s,m(%d,D)) if digit(D) and true(s). ", role, i)
	}
	for i := range n % 8 {
		text += fmt.Sprintf("legal(%s,%d) if true(s). ", role, i)
	}
	return text
}

func noMove(state, role int) api.Flaw {
	return api.Flaw{Kind: api.FlawNoMove, State: state, Role: role}
}

func noGoal(state, role int) api.Flaw {
	return api.Flaw{Kind: api.FlawGoal, State: state, Role: role}
}

func endless(state int) api.Flaw { return api.Flaw{Kind: api.FlawEndless, State: state} }

func unwon(role int) api.Flaw { return api.Flaw{Kind: api.FlawUnwon, Role: role} }

// Parts of descriptions
const (
	one   = "role(x). init(s). "
	two   = "role(x). role(y). init(s). "
	toss  = "role(chance). role(x). init(s). " // with chance as the role 0
	moves = "legal(R,a) if role(R). "          // in every state
	on    = "next(t) if true(s). "             // from s to t
	end   = "terminal if true(t). "
	coin  = "legal(chance,heads). legal(chance,tails). next(S) if does(chance,S). "
)

// The examples of the chapter
func TestExamples(t *testing.T) {
	g := game(sample.Lamp)
	x := graph(g, 1)
	if f, e := playable.Graph(g, x); f != unwon(1) || e != api.OK {
		t.Error(f, e)
	}
	if f, e := playable.Check(g, 0); f != endless(0) || e != api.OK {
		t.Error(f, e)
	}
	if sum, ok, e := playable.Sum(g, x); sum != 100 || !ok || e != api.OK {
		t.Error(sum, ok, e)
	}
	if turns, e := playable.Turns(g, x); !turns || e != api.OK {
		t.Error(turns, e)
	}
	if n, ok := playable.Longest(x); n != 0 || ok {
		t.Error(n, ok)
	}
}

// tryGraph checks what Graph says of the graph of a game to a depth, and Check of the game.
func tryGraph(t *testing.T, rules string, depth int, want api.Flaw, wantError api.Errno) {
	t.Helper()
	g := game(rules)
	if f, e := playable.Graph(g, graph(g, depth)); f != want || e != wantError {
		t.Errorf("%.200s: Graph to %d is %v, %d, want %v, %d", rules, depth, f, e, want, wantError)
	}
	if f, e := playable.Check(g, depth); f != want || e != wantError {
		t.Errorf("%.200s: Check to %d is %v, %d, want %v, %d", rules, depth, f, e, want, wantError)
	}
}

// P19.1, P19.2: games without a flaw
func TestNoFlaw(t *testing.T) {
	for rules, depth := range map[string]int{
		one + moves + on + end + "goal(x,100).":            1,
		one + "terminal. goal(x,100).":                     0,
		one + moves + "terminal. goal(x,100).":             16,
		toss + moves + on + end + "goal(x,100).":           1,
		two + moves + on + end + "goal(R,100) if role(R).": 16,
		toss + coin + "legal(x,a). terminal if true(heads). terminal if true(tails). goal(x,100) if true(heads). goal(x,0) if true(tails).":                                                                 1,
		two + "legal(x,a). legal(x,b). legal(y,a). next(t). next(won) if does(x,b). " + end + "goal(x,100) if true(won). goal(x,0) if not true(won). goal(y,0) if true(won). goal(y,100) if not true(won).": 1,
	} {
		tryGraph(t, rules, depth, api.Flaw{}, api.OK)
	}
}

// P19.1, P19.2: states that are not terminal
func TestNoMoveAndEndless(t *testing.T) {
	for _, c := range []struct {
		rules string
		depth int
		want  api.Flaw
	}{
		{one + "next(s).", 0, noMove(0, 0)}, {one + "next(s).", 9, noMove(0, 0)}, {"role(x). legal(x,a) if true(s).", 0, noMove(0, 0)}, {one + "legal(z,a).", 3, noMove(0, 0)},
		{two + "legal(x,a). next(s).", 0, noMove(0, 1)}, {two + "legal(x,a). next(s).", 4, noMove(0, 1)}, {two + "legal(y,a).", 3, noMove(0, 0)}, {two, 3, noMove(0, 0)},
		{toss + "legal(x,a).", 3, noMove(0, 0)}, {toss + "legal(chance,a).", 3, noMove(0, 1)}, {"role(x). role(chance). legal(x,a).", 0, noMove(0, 1)},
		{one + "legal(x,a) if true(s). " + on, 1, noMove(1, 0)}, {one + "legal(x,a) if true(s). " + on, 0, endless(0)}, {two + "legal(x,a). legal(y,a) if true(s). next(t).", 1, noMove(1, 1)}, {two + "legal(x,a). legal(y,a) if true(s). next(t).", 16, noMove(1, 1)},
		{one + "legal(x,a) if true(s). goal(x,100).", 1, noMove(1, 0)},
		{one + moves, 0, endless(0)}, {two + moves + on + end + "goal(R,100) if role(R).", 0, endless(0)}, {one + moves + on + "next(u) if true(t).", 1, endless(1)},
		{one + moves + on + "next(u) if true(t). next(s) if true(u).", 2, endless(2)}, {one + moves + on + "next(u) if true(t). next(s) if true(u).", 3, unwon(0)},
		{toss + coin + "legal(x,a).", 0, endless(0)}, {toss + coin + "legal(x,a).", 1, endless(1)}, {toss + coin + "legal(x,a). terminal if true(heads). goal(x,100).", 1, endless(2)}, {toss + coin + "legal(x,a). terminal if true(tails). goal(x,100).", 1, endless(1)},
		{two + choices("x", 64) + choices("y", 64), 0, endless(0)}, {two + choices("x", 17) + choices("y", 16), 0, endless(0)}, {one + choices("x", 64), 0, endless(0)},
	} {
		tryGraph(t, c.rules, c.depth, c.want, api.OK)
	}
}

// P19.1, P19.2: terminal states in which a player has not exactly one goal value
func TestNoGoal(t *testing.T) {
	for _, c := range []struct {
		rules string
		depth int
		want  api.Flaw
	}{
		{one + "terminal.", 0, noGoal(0, 0)}, {one + "terminal. goal(x,1). goal(x,2).", 0, noGoal(0, 0)}, {one + "terminal. goal(x,101).", 0, noGoal(0, 0)}, {one + "terminal. goal(x,none).", 0, noGoal(0, 0)}, {one + "terminal. goal(x,100). goal(x,0).", 5, noGoal(0, 0)},
		{one + "terminal. goal(x,100). goal(x,101). goal(x,none). goal(x,f(1)).", 0, api.Flaw{}}, {one + "terminal. legal(x,a).", 0, noGoal(0, 0)},
		{two + "terminal. goal(x,100). goal(y,100).", 0, api.Flaw{}}, {two + "terminal. goal(x,100).", 0, noGoal(0, 1)}, {two + "terminal. goal(y,100).", 0, noGoal(0, 0)}, {two + "terminal.", 0, noGoal(0, 0)}, {two + "terminal. goal(x,100). goal(y,100). goal(y,0).", 0, noGoal(0, 1)},
		{toss + "terminal. goal(x,100).", 0, api.Flaw{}}, {toss + "terminal. goal(x,100). goal(chance,1). goal(chance,2).", 0, api.Flaw{}}, {toss + "terminal.", 0, noGoal(0, 1)}, {toss + "terminal. goal(chance,100).", 0, noGoal(0, 1)}, {"role(x). role(chance). role(y). terminal. goal(x,100).", 0, noGoal(0, 2)},
		{one + moves + on + end + "goal(x,100) if true(s).", 1, noGoal(1, 0)}, {one + moves + on + end + "goal(x,100) if true(s). goal(x,100) if true(t).", 1, api.Flaw{}},
		{toss + coin + "legal(x,a). terminal if not true(s). goal(x,100) if true(heads).", 1, noGoal(2, 1)}, {toss + coin + "legal(x,a). terminal if not true(s). goal(x,100) if true(tails).", 1, noGoal(1, 1)},
	} {
		tryGraph(t, c.rules, c.depth, c.want, api.OK)
	}
}

// P19.1, P19.2: players who never win
func TestUnwon(t *testing.T) {
	for _, c := range []struct {
		rules string
		want  api.Flaw
	}{
		{one + moves + "next(s).", unwon(0)}, {toss + moves + "next(s).", unwon(1)}, {two + moves + "next(s).", unwon(0)}, {one + moves + "next(s). goal(x,100).", unwon(0)},
		{one + moves + on + end + "goal(x,99).", unwon(0)}, {one + moves + on + end + "goal(x,100) if true(s). goal(x,99) if not true(s).", unwon(0)},
		{two + moves + on + end + "goal(x,100). goal(y,99).", unwon(1)}, {two + moves + on + end + "goal(x,99). goal(y,100).", unwon(0)}, {two + moves + on + end + "goal(x,0). goal(y,0).", unwon(0)},
		{toss + moves + on + end + "goal(x,99). goal(chance,100).", unwon(1)}, {"role(x). role(chance). role(y). init(s). terminal. goal(x,100). goal(y,0).", unwon(2)},
		{toss + coin + "legal(x,a). terminal if not true(s). goal(x,99) if true(heads). goal(x,100) if true(tails).", api.Flaw{}},
		{toss + coin + "legal(x,a). terminal if not true(s). goal(x,99).", unwon(1)},
	} {
		tryGraph(t, c.rules, 1, c.want, api.OK)
	}
}

// P19.1: the states in the order of their numbers, the roles of each in the order of theirs, and the errors of logic.Legal among them
func TestOrderOfFlaws(t *testing.T) {
	const tossed = toss + coin + "legal(x,a) if true(s). " // heads is the state 1, tails the state 2
	for _, c := range []struct {
		rules string
		depth int
		want  api.Flaw
		e     api.Errno
	}{
		{tossed, 1, noMove(1, 1), api.OK}, {tossed + "legal(x,a) if true(heads).", 1, endless(1), api.OK}, {tossed + "legal(x,a) if true(tails).", 1, noMove(1, 1), api.OK},
		{tossed + "terminal if true(heads).", 1, noGoal(1, 1), api.OK}, {tossed + "terminal if true(heads). goal(x,0).", 1, noMove(2, 1), api.OK}, {tossed + "terminal if true(tails).", 1, noMove(1, 1), api.OK}, {tossed + "terminal if true(tails). legal(x,b) if true(heads).", 1, endless(1), api.OK}, {tossed + "terminal if true(tails). legal(x,b) if true(heads).", 2, noGoal(2, 1), api.OK},
		{tossed + "terminal if true(heads). goal(x,0). legal(x,a) if true(tails).", 1, endless(2), api.OK}, {tossed + "terminal if true(heads). goal(x,0). legal(x,a) if true(tails).", 2, unwon(1), api.OK},
		// Too many legal moves
		{one + choices("x", 65), 0, api.Flaw{}, api.ErrTooLarge}, {two + choices("x", 65), 0, api.Flaw{}, api.ErrTooLarge}, {two + choices("y", 65), 0, noMove(0, 0), api.OK}, {two + moves + choices("y", 65), 0, api.Flaw{}, api.ErrTooLarge}, {two + moves + choices("x", 65), 0, api.Flaw{}, api.ErrTooLarge}, {toss + "legal(x,a). " + choices("chance", 65), 0, api.Flaw{}, api.ErrTooLarge},
		{one + choices("x", 65) + "terminal. goal(x,100).", 0, api.Flaw{}, api.OK}, {one + choices("x", 65) + "terminal.", 0, noGoal(0, 0), api.OK},
		{one + "init(u). next(s) if not true(s). legal(x,a) if not true(s). " + choices("x", 65), 0, api.Flaw{}, api.ErrTooLarge},
		{"role(x). init(u). next(s). legal(x,a) if true(u). " + choices("x", 65), 0, endless(0), api.OK}, {"role(x). init(u). next(s). legal(x,a) if true(u). " + choices("x", 65), 1, api.Flaw{}, api.ErrTooLarge}, {"role(x). init(u). next(s). " + choices("x", 65), 1, noMove(0, 0), api.OK},
		{"role(x). role(chance). init(u). legal(x,a) if true(u). legal(x,a) if true(r). legal(chance,r). legal(chance,s). next(S) if does(chance,S). " + choices("x", 65), 1, endless(1), api.OK},
		{"role(x). role(chance). init(u). legal(x,a) if true(u). legal(chance,r). legal(chance,s). next(S) if does(chance,S). terminal if true(r). goal(x,0). " + choices("x", 65), 1, api.Flaw{}, api.ErrTooLarge},
	} {
		tryGraph(t, c.rules, c.depth, c.want, c.e)
	}
}

// P19.1: graphs that are valid although some states between others have no steps
func TestGraphsWithoutSomeSteps(t *testing.T) {
	g := game(toss + coin + "legal(x,a). goal(x,100).")
	x := graph(g, 3)
	if f, e := playable.Graph(g, x); f != unwon(1) || e != api.OK || len(x.Steps) != 6 {
		t.Error(f, e, x)
	}
	for _, c := range []struct {
		left []int // the states whose steps are left
		want api.Flaw
	}{
		{[]int{0, 1}, endless(2)}, {[]int{0, 2}, endless(1)}, {[]int{0}, endless(1)},
	} {
		y := x
		y.Steps = slices.DeleteFunc(slices.Clone(x.Steps), func(s api.Step) bool { return !slices.Contains(c.left, s.From) })
		y.Complete = false
		if f, e := playable.Graph(g, y); f != c.want || e != api.OK {
			t.Errorf("%v: %v, %d, want %v", c.left, f, e, c.want)
		}
	}
}

// P19.1 to P19.4: games and graphs that are not valid, before other errors
func TestInvalid(t *testing.T) {
	g := game(sample.Lamp)
	copied := *g
	wrong := graph(g, 1)
	wrong.Complete = false
	for i, c := range []struct {
		g *logic.Game
		x api.Graph
	}{
		{nil, graph(g, 1)}, {&logic.Game{}, graph(g, 1)}, {&copied, graph(g, 1)}, {nil, api.Graph{}}, {g, api.Graph{}}, {g, wrong}, {game(sample.Coin), graph(g, 1)},
	} {
		if f, e := playable.Graph(c.g, c.x); f != (api.Flaw{}) || e != api.ErrInvalid {
			t.Errorf("%d: Graph %v, %d", i, f, e)
		}
		for _, role := range []int{0, -1, 2} {
			if ok, e := playable.Winnable(c.g, c.x, role); ok || e != api.ErrInvalid {
				t.Errorf("%d: Winnable %v, %d", i, ok, e)
			}
		}
		if n, ok, e := playable.Sum(c.g, c.x); n != 0 || ok || e != api.ErrInvalid {
			t.Errorf("%d: Sum %d, %v, %d", i, n, ok, e)
		}
		if ok, e := playable.Turns(c.g, c.x); ok || e != api.ErrInvalid {
			t.Errorf("%d: Turns %v, %d", i, ok, e)
		}
	}
}

// P19.2: the errors of reach.Graph
func TestCheckErrors(t *testing.T) {
	g := game(sample.Lamp)
	copied := *g
	for _, c := range []struct {
		g     *logic.Game
		depth int
		want  api.Errno
	}{
		{nil, 0, api.ErrInvalid}, {nil, -1, api.ErrInvalid}, {&logic.Game{}, 1, api.ErrInvalid}, {&copied, 17, api.ErrInvalid},
		{g, -1, api.ErrRange}, {g, 17, api.ErrRange}, {g, 1 << 62, api.ErrRange}, {g, -1 << 63, api.ErrRange},
		{game(one + choices("x", 65)), 1, api.ErrTooLarge}, {game(two + choices("x", 64) + choices("y", 5)), 1, api.ErrTooLarge}, {game(sample.Noughts), 3, api.ErrTooLarge}, {game(one + choices("x", 65)), 17, api.ErrRange},
	} {
		if f, e := playable.Check(c.g, c.depth); f != (api.Flaw{}) || e != c.want {
			t.Errorf("Check to %d is %v, %d, want %d", c.depth, f, e, c.want)
		}
	}
	for _, depth := range []int{1, 16} {
		if f, e := playable.Check(g, depth); f != unwon(1) || e != api.OK {
			t.Error(depth, f, e)
		}
	}
}

package reach_test

import (
	"strings"
	"testing"

	"gameplayer/api"
	"gameplayer/logic"
	"gameplayer/reach"
	"gameplayer/sample"
)

// P18.5: graphs of the game, whichever of their states have been expanded
func TestValid(t *testing.T) {
	g := game(walk)
	for i, c := range []struct {
		states   string
		depths   []int
		steps    string
		complete bool
		want     bool
	}{
		{"1", []int{0}, "", false, true}, {"1", []int{0}, "", true, false},
		{"1;2;3", []int{0, 1, 1}, "0 a 1;0 b 2", false, true}, {"1;2;3", []int{0, 1, 1}, "0 a 1;0 b 2", true, false},
		{"1;2;3;4", []int{0, 1, 1, 2}, "0 a 1;0 b 2;1 a 3;1 b 0", false, true}, {"1;2;3;4;5", []int{0, 1, 1, 2, 2}, "0 a 1;0 b 2;2 a 3;2 b 4", false, true}, {"1;2;3;4;5;6", []int{0, 1, 1, 2, 2, 3}, "0 a 1;0 b 2;2 a 3;2 b 4;4 a 5", false, true},
		{"1;2;3;4;5", []int{0, 1, 1, 2, 2}, "0 a 1;0 b 2;1 a 3;1 b 0;2 a 3;2 b 4", false, true}, {"1;2;3;4;5;6", []int{0, 1, 1, 2, 2, 3}, "0 a 1;0 b 2;1 a 3;1 b 0;2 a 3;2 b 4;4 a 5", true, true}, {"1;2;3;4;5;6", []int{0, 1, 1, 2, 2, 3}, "0 a 1;0 b 2;1 a 3;1 b 0;2 a 3;2 b 4;4 a 5", false, false},
		// The number of states, and of depths
		{"1", nil, "", false, false}, {"1", []int{0, 1}, "", false, false}, {"1;2;3", []int{0, 1}, "0 a 1;0 b 2", false, false}, {"1;2;3", []int{0, 1, 1, 2}, "0 a 1;0 b 2", false, false},
		// The states
		{"2", []int{0}, "", false, false}, {"", []int{0}, "", false, false}, {"7", []int{0}, "", false, false}, {"1,2", []int{0}, "", false, false}, {"1;2;2", []int{0, 1, 1}, "0 a 1;0 b 2", false, false}, {"1;1;3", []int{0, 1, 1}, "0 a 1;0 b 2", false, false}, {"1;2;3,2", []int{0, 1, 1}, "0 a 1;0 b 2", false, false}, {"1;2;3;3", []int{0, 1, 1, 2}, "0 a 1;0 b 2", false, false}, {"1;2;3;4;4;5", []int{0, 1, 1, 2, 2, 2}, "0 a 1;0 b 2;1 a 3;1 b 0;2 a 4;2 b 5", false, false},
		{"1;2;7", []int{0, 1, 1}, "0 a 1;0 b 2", false, false}, {"1;2;5", []int{0, 1, 1}, "0 a 1;0 b 2", false, false}, {"1;3;2", []int{0, 1, 1}, "0 a 1;0 b 2", false, false}, {"2;1;4", []int{0, 1, 1}, "0 a 2;0 b 1", false, false}, {"2;4;1", []int{0, 1, 1}, "0 a 1;0 b 2", false, false},
		// States that no step meets, or in another order
		{"1;2", []int{0, 1}, "", false, false}, {"1;2;3;4", []int{0, 1, 1, 2}, "0 a 1;0 b 2", false, false}, {"1;3;2", []int{0, 1, 1}, "0 a 2;0 b 1", false, false}, {"1;2;3;5;4", []int{0, 1, 1, 2, 2}, "0 a 1;0 b 2;2 a 4;2 b 3", false, false}, {"1;2;3;4;5", []int{0, 1, 1, 2, 2}, "0 a 1;0 b 2;1 a 3;1 b 0", false, false},
		// The depths
		{"1", []int{1}, "", false, false}, {"1", []int{-1}, "", false, false}, {"1;2;3", []int{1, 2, 2}, "0 a 1;0 b 2", false, false}, {"1;2;3", []int{0, 1, 2}, "0 a 1;0 b 2", false, false}, {"1;2;3", []int{0, 0, 1}, "0 a 1;0 b 2", false, false}, {"1;2;3;4", []int{0, 1, 1, 1}, "0 a 1;0 b 2;1 a 3;1 b 0", false, false}, {"1;2;3;4", []int{0, 1, 1, 3}, "0 a 1;0 b 2;1 a 3;1 b 0", false, false},
		// The steps of a state: too few, too many, others, or in another order
		{"1;2", []int{0, 1}, "0 a 1", false, false}, {"1;3", []int{0, 1}, "0 b 1", false, false}, {"1;3;2", []int{0, 1, 1}, "0 b 1;0 a 2", false, false}, {"1;2;3", []int{0, 1, 1}, "0 a 1;0 b 2;0 b 2", false, false}, {"1;2;3", []int{0, 1, 1}, "0 a 1;0 a 1;0 b 2", false, false}, {"1;2;3", []int{0, 1, 1}, "0 a 1;0 b 2;0 c 2", false, false}, {"1;2;3", []int{0, 1, 1}, "0 a 1;0 c 2", false, false}, {"1;2;3", []int{0, 1, 1}, "0 a 1;0 a 2", false, false},
		{"1;2;3", []int{0, 1, 1}, "0 a 1;0 b,b 2", false, false}, {"1;2;3", []int{0, 1, 1}, "0 a 1;0 b(a) 2", false, false}, {"1;2;3;4", []int{0, 1, 1, 2}, "0 a 1;0 b 2;1 a 3", false, false}, {"1;2;3;4", []int{0, 1, 1, 2}, "0 a 1;0 b 2;1 a 3;1 b 0;1 b 0", false, false}, {"1;2;3;4", []int{0, 1, 1, 2}, "0 a 1;0 b 2;1 b 0;1 a 3", false, false},
		// The numbers of steps
		{"1;2;3", []int{0, 1, 1}, "0 a 1;0 b 3", false, false}, {"1;2;3", []int{0, 1, 1}, "0 a -1;0 b 2", false, false}, {"1;2;3", []int{0, 1, 1}, "3 a 1;3 b 2", false, false}, {"1;2;3", []int{0, 1, 1}, "-1 a 1;-1 b 2", false, false}, {"1;2;3", []int{0, 1, 1}, "0 a 1;0 b 2;3 a 1", false, false}, {"1;2;3", []int{0, 1, 1}, "-1 a 0;0 a 1;0 b 2", false, false}, {"1;2;3", []int{0, 1, 1}, "0 a 1;0 b 2;-5 a 0", false, false},
		{"1;2;3;4", []int{0, 1, 1, 2}, "0 a 1;0 b 2;1 a 3;1 b 2", false, false}, {"1;2;3;4", []int{0, 1, 1, 2}, "0 a 1;0 b 2;1 a 3;1 b 1", false, false}, {"1;2;3;4;5", []int{0, 1, 1, 2, 2}, "0 a 1;0 b 2;1 a 3;1 b 0;2 a 0;2 b 4", false, false}, {"1;2;3", []int{0, 1, 1}, "0 a 0;0 b 2", false, false},
		{"1;2;3;4;5", []int{0, 1, 1, 2, 2}, "0 a 1;0 b 2;2 a 3;2 b 4;1 a 3;1 b 0", false, false}, {"1;2;3;4;5", []int{0, 1, 1, 2, 2}, "0 a 1;0 b 2;1 a 3;2 a 3;1 b 0;2 b 4", false, false}, {"1;2;3;4", []int{0, 1, 1, 2}, "1 a 3;1 b 0;0 a 1;0 b 2", false, false},
		// Steps of states that cannot be expanded: 4 is terminal, though it has a legal move, and 6 has no moves
		{"1;2;3;4", []int{0, 1, 1, 2}, "0 a 1;0 b 2;1 a 3;1 b 0;3 a 0", false, false}, {"1;2;3;4;5;6", []int{0, 1, 1, 2, 2, 3}, "0 a 1;0 b 2;1 a 3;1 b 0;2 a 3;2 b 4;4 a 5;5 a 5", true, false}, {"1;2;3;4;5;6", []int{0, 1, 1, 2, 2, 3}, "0 a 1;0 b 2;1 a 3;1 b 0;2 a 3;2 b 4;3 a 0;4 a 5", true, false},
	} {
		x := build(c.states, c.depths, c.steps, c.complete)
		if got := reach.Valid(g, x); got != c.want {
			t.Errorf("%d: Valid(%s) is %v", i, show(x), got)
		}
		for _, g := range []*logic.Game{nil, {}, game(sample.Lamp)} {
			if reach.Valid(g, x) {
				t.Errorf("%d: Valid(%s) is true for another game", i, show(x))
			}
		}
	}
	if reach.Valid(g, api.Graph{}) || reach.Valid(g, api.Graph{Complete: true}) || reach.Valid(nil, api.Graph{}) || reach.Valid(nil, api.Graph{Complete: true}) {
		t.Error("no states")
	}
}

// P18.5: the depth of a state counts the steps by which it is met first, which may be more than would suffice.
func TestValidDepths(t *testing.T) {
	g := game("role(x). init(1). to(1,a,2). to(1,b,3). to(2,a,5). to(3,a,4). to(4,a,5). to(5,a,5). legal(x,M) if true(P) and to(P,M,Q). next(Q) if true(P) and does(x,M) and to(P,M,Q).")
	for depth, want := range []bool{false, false, false, true, false} {
		x := build("1;2;3;4;5", []int{0, 1, 1, 2, depth}, "0 a 1;0 b 2;2 a 3;3 a 4", false)
		if got := reach.Valid(g, x); got != want {
			t.Errorf("Valid(%s) is %v", show(x), got)
		}
		x = build("1;2;3;5;4", []int{0, 1, 1, depth - 1, 2}, "0 a 1;0 b 2;1 a 3;2 a 4", false)
		if got := reach.Valid(g, x); got != want {
			t.Errorf("Valid(%s) is %v", show(x), got)
		}
	}
	for depth := range 5 { // 5 is met before 4, and then once more
		if x := build("1;2;3;4;5", []int{0, 1, 1, 2, depth}, "0 a 1;0 b 2;1 a 4;2 a 3;3 a 4", false); reach.Valid(g, x) {
			t.Errorf("Valid(%s) is true", show(x))
		}
	}
	for _, depths := range [][]int{{0, 0}, {0, 1}, {0, 2}, {0, 1 << 62}} { // 5 is only met by its own step
		if x := build("1;5", depths, "1 a 1", false); reach.Valid(g, x) {
			t.Errorf("Valid(%s) is true", show(x))
		}
	}
	const most, least = 1<<63 - 1, -1 << 63
	for _, depths := range [][]int{{0, 1, 2}, {0, 2, 1}, {0, most, least}, {0, least, most}} { // each of two states is met by the other one
		if x := build("1;4;5", depths, "1 a 2;2 a 1", false); reach.Valid(g, x) {
			t.Errorf("Valid(%s) is true", show(x))
		}
	}
}

// P18.5: two roles, and terms that are not constants
func TestValidOfTwoRoles(t *testing.T) {
	g := game("role(y). role(x). init(p(0)). legal(x,a). legal(x,f(a)). legal(y,k) if true(p(0)). next(p(1)) if does(x,a). next(p(0)) if does(x,f(a)).")
	for _, c := range []struct {
		states, steps  string
		complete, want bool
	}{
		{"p(0);p(1)", "0 k,a 1;0 k,f(a) 0", true, true}, {"p(0);p(1)", "0 k,a 1;0 k,f(a) 0", false, false}, {"p(0)", "0 k,f(a) 0", true, false}, {"p(0);p(1)", "0 k,a 1;0 k,f(b) 0", true, false}, {"p(0);p(1)", "0 a,k 1;0 f(a),k 0", true, false}, {"p(0);p(1)", "0 k,a 1;0 k,f(a) 0;1 k,a 1;1 k,f(a) 0", true, false}, {"p(0);p(1)", "0 k,a 1;0 k,f(a) 0;1 a 1;1 f(a) 0", true, false}, {"p(0);p(1)", "0 k,a 1;0 k,f(X) 0", true, false}, {"p(0);p(2)", "0 k,a 1;0 k,f(a) 0", true, false},
	} {
		x := build(c.states, make([]int, 1+strings.Count(c.states, ";")), c.steps, c.complete)
		for i := range x.Depths {
			x.Depths[i] = i
		}
		if got := reach.Valid(g, x); got != c.want {
			t.Errorf("Valid(%s) is %v", show(x), got)
		}
	}
}

// P18.5: up to MaxStates states, and any depth
func TestValidLimits(t *testing.T) {
	const counter = "role(x). init(high(0)). init(low(0)). u(0,1). u(1,2). u(2,3). u(3,4). u(4,5). u(5,6). u(6,7). u(7,8). u(8,9). u(9,10). u(10,11). u(11,12). u(12,13). u(13,14). u(14,15). u(15,16). legal(x,go). " +
		"next(low(Y)) if true(low(X)) and u(X,Y) and distinct(Y,16). next(low(0)) if true(low(15)). next(high(X)) if true(high(X)) and not true(low(15)). next(high(Y)) if true(high(X)) and true(low(15)) and u(X,Y)."
	g := game(counter)
	var x api.Graph
	state := g.Initial()
	for i := range 257 { // 16 times 16 states, and that of 16 and 0
		x.States = append(x.States, state)
		x.Depths = append(x.Depths, i)
		if i > 0 {
			x.Steps = append(x.Steps, api.Step{From: i - 1, Joint: terms("go"), To: i})
		}
		if count := i + 1; (count == 18 || count > 254) && reach.Valid(g, x) != (count <= 256) {
			t.Errorf("Valid of %d states is %v", count, count > 256)
		}
		next, e := g.Next(state, terms("go"))
		if e != api.OK {
			t.Fatal(i, e)
		}
		state = next
	}
}

// P18.5: a state with too many joint moves can be expanded, and is not.
func TestValidOfManyMoves(t *testing.T) {
	for _, n := range []int{64, 65} {
		g := game(choices("x", n) + "more.")
		x := build("", []int{0}, "", false)
		if !reach.Valid(g, x) {
			t.Error(n, "not expanded")
		}
		x.Complete = true
		if reach.Valid(g, x) {
			t.Error(n, "not expanded, and yet complete")
		}
		x.Steps = []api.Step{{Joint: terms("0")}}
		if reach.Valid(g, x) {
			t.Error(n, "one step")
		}
	}
}

package reach_test

import (
	"fmt"
	"strings"
	"testing"

	"gameplayer/api"
	"gameplayer/logic"
	"gameplayer/printer"
	"gameplayer/reach"
	"gameplayer/sample"
)

var terms = sample.Terms

// game makes a game from its description.
func game(text string) *logic.Game {
	g, e := logic.New(sample.Rules(text))
	if e != api.OK {
		panic(text)
	}
	return g
}

// show shows a graph: the depths and states, the steps, and a full stop if it is complete.
func show(x api.Graph) string {
	var parts []string
	for i, s := range x.States {
		parts = append(parts, fmt.Sprint(x.Depths[i], " ", printer.Terms(s)))
	}
	text := strings.Join(parts, "; ")
	for _, s := range x.Steps {
		text += fmt.Sprint(" | ", s.From, " ", printer.Terms(s.Joint), " ", s.To)
	}
	if x.Complete {
		text += " ."
	}
	return text
}

// list shows lists of terms.
func list(l [][]api.Term) string {
	var texts []string
	for _, x := range l {
		texts = append(texts, printer.Terms(x))
	}
	return strings.Join(texts, "; ")
}

// joints reads joint moves.
func joints(text string) [][]api.Term {
	var l [][]api.Term
	for part := range strings.SplitSeq(text, ";") {
		l = append(l, terms(part))
	}
	return l
}

// walk is a game in which one role walks from place to place: it ends at 4, and does not go on from 6.
const walk = `role(x). init(1). to(1,a,2). to(1,b,3). to(2,a,4). to(2,b,1). to(3,a,4). to(3,b,5). to(4,a,1). to(5,a,6).
legal(x,M) if true(P) and to(P,M,Q).
next(Q) if true(P) and does(x,M) and to(P,M,Q).
terminal if true(4).
`

// The examples of the chapter
func TestExamples(t *testing.T) {
	g := game(sample.Lamp)
	x, e := reach.Graph(g, 0)
	if show(x) != "0 s" || e != api.OK {
		t.Error(show(x), e)
	}
	x, e = reach.Graph(g, 1)
	if show(x) != "0 s; 1  | 0 a, c 0 | 0 b, c 1 ." || e != api.OK {
		t.Error(show(x), e)
	}
	if p, ok := reach.Path(x, 1); list(p) != "b, c" || !ok {
		t.Error(list(p), ok)
	}
	if p, ok := reach.Path(x, 2); len(p) > 0 || ok {
		t.Error(list(p), ok)
	}
	if s, n, e := reach.Play(g, joints("b,c; b,c")); len(s) > 0 || n != 1 || e != api.ErrTerminal {
		t.Error(printer.Terms(s), n, e)
	}
}

// P18.1: graphs to several depths
func TestGraph(t *testing.T) {
	const one = "role(x). legal(x,a). "
	const two = "role(x). role(y). init(s). "
	for _, c := range []struct {
		rules string
		depth int
		want  string
	}{
		{walk, 0, "0 1"},
		{walk, 1, "0 1; 1 2; 1 3 | 0 a 1 | 0 b 2"},
		{walk, 2, "0 1; 1 2; 1 3; 2 4; 2 5 | 0 a 1 | 0 b 2 | 1 a 3 | 1 b 0 | 2 a 3 | 2 b 4"},
		{walk, 3, "0 1; 1 2; 1 3; 2 4; 2 5; 3 6 | 0 a 1 | 0 b 2 | 1 a 3 | 1 b 0 | 2 a 3 | 2 b 4 | 4 a 5 ."},
		{walk, 16, "0 1; 1 2; 1 3; 2 4; 2 5; 3 6 | 0 a 1 | 0 b 2 | 1 a 3 | 1 b 0 | 2 a 3 | 2 b 4 | 4 a 5 ."},
		{one, 0, "0 "}, {one, 1, "0  | 0 a 0 ."}, {one + "next(b).", 1, "0 ; 1 b | 0 a 1"}, {one + "next(b).", 2, "0 ; 1 b | 0 a 1 | 1 a 1 ."},
		{one + "terminal.", 0, "0  ."}, {one + "terminal.", 5, "0  ."}, {"role(x).", 0, "0  ."}, {"role(x).", 16, "0  ."}, {one + "role(y).", 1, "0  ."}, {one + "role(chance).", 0, "0  ."},
		{one + "init(s). next(b). terminal if true(b).", 0, "0 s"}, {one + "init(s). next(b). terminal if true(b).", 1, "0 s; 1 b | 0 a 1 ."},
		{one + "init(s). role(y). legal(y,c) if true(s). next(b).", 1, "0 s; 1 b | 0 a, c 1 ."},
		{one + "init(s). init(s(a)). init(2). init(10). next(X) if true(X) and distinct(X,s).", 1, "0 2, 10, s, s(a); 1 2, 10, s(a) | 0 a 1"},
		{two + "legal(x,10). legal(x,2). legal(y,b). legal(y,a). next(M) if does(x,M). next(M) if does(y,M).", 1, "0 s; 1 2, a; 1 2, b; 1 10, a; 1 10, b | 0 2, a 1 | 0 2, b 2 | 0 10, a 3 | 0 10, b 4"},
		{two + "legal(x,b). legal(x,a). legal(y,c). next(M) if does(x,M) and distinct(M,a). next(s) if does(x,a).", 1, "0 s; 1 b | 0 a, c 0 | 0 b, c 1"},
		{"role(y). role(x). init(s). legal(x,b). legal(x,a). legal(y,d). legal(y,c). next(M) if does(x,M).", 2, "0 s; 1 a; 1 b | 0 c, a 1 | 0 c, b 2 | 0 d, a 1 | 0 d, b 2 | 1 c, a 1 | 1 c, b 2 | 1 d, a 1 | 1 d, b 2 | 2 c, a 1 | 2 c, b 2 | 2 d, a 1 | 2 d, b 2 ."},
		{sample.Coin, 1, "0 air; 1 lies(heads); 1 lies(tails) | 0 toss(heads), wait, wait 1 | 0 toss(tails), wait, wait 2"},
	} {
		g := game(c.rules)
		x, e := reach.Graph(g, c.depth)
		if show(x) != c.want || e != api.OK {
			t.Errorf("%s: Graph to %d is %s, %d, want %s", c.rules, c.depth, show(x), e, c.want)
		}
		if !reach.Valid(g, x) {
			t.Errorf("%s: Graph to %d is not valid", c.rules, c.depth)
		}
	}
	x, e := reach.Graph(game(sample.Coin), 2)
	if len(x.States) != 11 || len(x.Steps) != 10 || !x.Complete || e != api.OK {
		t.Error(show(x), e)
	}
	x, e = reach.Graph(game(sample.Noughts), 2)
	if len(x.States) != 1+9+9*8 || len(x.Steps) != 9+9*8 || x.Complete || e != api.OK {
		t.Error(len(x.States), len(x.Steps), e)
	}
}

// isError reports whether Graph has an error, and nothing else.
func isError(g *logic.Game, depth int, want api.Errno) bool {
	x, e := reach.Graph(g, depth)
	return e == want && show(x) == "" && len(x.Depths) == 0
}

// P18.1: the errors, in their order
func TestGraphErrors(t *testing.T) {
	g := game(walk)
	for _, c := range []struct {
		g     *logic.Game
		depth int
		want  api.Errno
	}{
		{nil, 1, api.ErrInvalid}, {nil, -1, api.ErrInvalid}, {nil, 17, api.ErrInvalid}, {&logic.Game{}, 1, api.ErrInvalid}, {&logic.Game{}, 99, api.ErrInvalid},
		{g, -1, api.ErrRange}, {g, 17, api.ErrRange}, {g, 1 << 40, api.ErrRange}, {g, -1 << 63, api.ErrRange},
	} {
		if !isError(c.g, c.depth, c.want) {
			t.Errorf("%v: Graph to %d has not the error %d", c.g, c.depth, c.want)
		}
	}
}

// choices are legal moves of a role, as many as there are numbers below n.
func choices(role string, n int) string {
	text := "role(" + role + "). "
	for i := range n {
		text += fmt.Sprintf("legal(%s,%d) if more. ", role, i)
	}
	return text
}

// P18.1: too many joint moves are an error only of a state that is to be expanded.
func TestGraphOfManyMoves(t *testing.T) {
	// Step by step from 0 to 2, where there are more moves
	const steps = "init(0). up(0,1). up(1,2). next(Y) if true(X) and up(X,Y). next(2) if true(2). more if true(2). legal(R,go) if role(R) and not more. "
	for _, c := range []struct {
		rules    string
		complete bool // to the depth 2
		want     api.Errno
		steps    int // to the depth 3
	}{
		{choices("x", 64), false, api.OK, 66}, {choices("x", 65), false, api.ErrTooLarge, 0}, {choices("x", 16) + choices("y", 16), false, api.OK, 258}, {choices("x", 16) + choices("y", 17), false, api.ErrTooLarge, 0},
		{choices("x", 65) + choices("y", 0), true, api.OK, 2}, {choices("x", 0) + choices("y", 65), true, api.OK, 2}, {choices("x", 65) + "terminal if more.", true, api.OK, 2},
	} {
		g := game(steps + c.rules)
		x, e := reach.Graph(g, 2)
		if x.Complete != c.complete || e != api.OK || len(x.States) != 3 || !reach.Valid(g, x) {
			t.Errorf("%.60s: Graph to 2 is %s, %d", c.rules, show(x), e)
		}
		x, e = reach.Graph(g, 3)
		if e != c.want || len(x.Steps) != c.steps || x.Complete != (e == api.OK) || e != api.OK && !isError(g, 3, e) {
			t.Errorf("%.60s: Graph to 3 has %d steps, %d", c.rules, len(x.Steps), e)
		}
	}
}

// bits is a game in which each of n moves puts another fact into the state: there are 2 to the power of n states.
func bits(n int) string {
	text := "role(x). next(X) if true(X). next(X) if does(x,X). legal(x,X) if bit(X). "
	for i := range n {
		text += fmt.Sprintf("bit(%d). ", i)
	}
	return text
}

// P18.1: up to MaxStates states, also of the last depth
func TestGraphOfManyStates(t *testing.T) {
	for i, c := range []struct {
		rules  string
		depth  int
		states int
		want   api.Errno
	}{
		{bits(8), 8, 256, api.OK}, {bits(8), 7, 255, api.OK}, {bits(8), 16, 256, api.OK}, {bits(9), 16, 0, api.ErrTooLarge}, {bits(9), 4, 256, api.OK}, {bits(9), 5, 0, api.ErrTooLarge}, {bits(9), 3, 130, api.OK},
		{bits(8) + "init(start).", 8, 256, api.OK}, {bits(8) + "init(start).", 7, 255, api.OK}, {bits(8) + "init(start). next(stop) if true(0) and true(1) and true(2) and true(3) and true(4) and true(5) and true(6) and true(7).", 9, 0, api.ErrTooLarge},
		{bits(64) + "terminal if true(X) and true(Y) and distinct(X,Y).", 1, 65, api.OK}, {bits(64) + "terminal if true(X) and true(Y) and distinct(X,Y).", 2, 0, api.ErrTooLarge},
	} {
		g := game(c.rules)
		x, e := reach.Graph(g, c.depth)
		if len(x.States) != c.states || e != c.want || e != api.OK && !isError(g, c.depth, e) {
			t.Errorf("%d: Graph to %d has %d states, %d, want %d, %d", i, c.depth, len(x.States), e, c.states, c.want)
		}
	}
}

// build makes a graph: states and steps are separated by semicolons, and the parts of a step by blanks.
func build(states string, depths []int, steps string, complete bool) api.Graph {
	x := api.Graph{States: joints(states), Depths: depths, Complete: complete}
	for part := range strings.SplitSeq(steps, ";") {
		var s api.Step
		var joint string
		if n, _ := fmt.Sscan(part, &s.From, &joint, &s.To); n == 3 {
			s.Joint = terms(joint)
			x.Steps = append(x.Steps, s)
		}
	}
	return x
}

// P18.2
func TestFind(t *testing.T) {
	x := build("s;a,b;;b,a;f(a);a,b;f(X);a", nil, "", false)
	for _, c := range []struct {
		state string
		want  int
	}{
		{"s", 0}, {"a,b", 1}, {"", 2}, {"b,a", 3}, {"f(a)", 4}, {"f(X)", 6}, {"a", 7}, {"b", -1}, {"a,b,c", -1}, {"a,a", -1}, {"f(b)", -1}, {"f(a,a)", -1}, {"f", -1}, {"Y", -1},
	} {
		if got := reach.Find(x, terms(c.state)); got != c.want {
			t.Errorf("Find(%s) is %d, want %d", c.state, got, c.want)
		}
	}
	if got := reach.Find(api.Graph{}, nil); got != -1 {
		t.Error(got)
	}
	if got := reach.Find(build("", nil, "", false), nil); got != 0 {
		t.Error(got)
	}
}

// P18.3: in valid graphs and in others
func TestPath(t *testing.T) {
	x, _ := reach.Graph(game(walk), 16)
	for state, want := range []string{"", "a", "b", "a; a", "b; b", "b; b; a"} {
		if got, ok := reach.Path(x, state); list(got) != want || !ok {
			t.Errorf("Path to %d is %s, %v, want %s", state, list(got), ok, want)
		}
	}
	for i, c := range []struct {
		states string
		steps  string
		state  int
		want   string
		ok     bool
	}{
		{"s", "", 0, "", true}, {"s", "", 1, "", false}, {"s", "", -1, "", false}, {"s", "0 a 1", 1, "", false}, {"s", "0 a -1", -1, "", false}, {"s", "0 a 0", 0, "", true}, {"s;s", "1 a 0", 0, "", true},
		{"s;s;s", "0 a 1;0 b 1;1 c 2", 1, "a", true}, {"s;s;s", "0 b 1;0 a 1;1 c 2", 2, "b; c", true}, {"s;s;s", "0 a 1;1 b 2;0 c 2", 2, "a; b", true}, {"s;s;s", "0 c 2;0 a 1;1 b 2", 2, "c", true}, {"s;s;s", "1 b 2;0 a 1", 2, "a; b", true}, {"s;s;s", "2 a 1;0 b 2", 1, "b; a", true},
		{"s;s", "", 1, "", false}, {"s;s", "1 a 1;0 b 1", 1, "", false}, {"s;s;s", "2 a 1;1 b 2;0 c 1;0 c 2", 1, "", false}, {"s;s;s", "1 a 2;2 b 1", 2, "", false}, {"s;s;s;s", "1 a 2;2 b 1;2 c 3", 3, "", false}, {"s;s;s", "1 a 2", 2, "", false},
		{"s;s", "0 a 7;7 b 1", 1, "a; b", true}, {"s;s", "0 a -3;-3 b 1", 1, "a; b", true}, {"s;s", "8 b 1;7 a 8;0 c 7", 1, "c; a; b", true}, {"s;s", "7 b 1", 1, "", false}, {"s;s", "7 b 1;7 a 7;0 c 7", 1, "", false}, {"s;s", "0 a 7;7 b 1", 7, "", false}, {"s;s", "0 a 7;7 b 8;8 c 7;8 d 1", 1, "a; b; d", true},
		{"s;s;s", "0 a,b 1;1 f(X),2 2", 2, "a, b; f(X), 2", true}, {"s;s", "0 a 1;0 b 0;1 c 0", 1, "a", true},
	} {
		if got, ok := reach.Path(build(c.states, nil, c.steps, false), c.state); list(got) != c.want || ok != c.ok {
			t.Errorf("%d: Path(%s; %d) is %s, %v, want %s, %v", i, c.steps, c.state, list(got), ok, c.want, c.ok)
		}
	}
	for _, state := range []int{0, 1, -1} {
		if got, ok := reach.Path(api.Graph{Steps: []api.Step{{From: 0, To: 0}, {From: 0, To: 1}}}, state); len(got) > 0 || ok {
			t.Error(state, list(got), ok)
		}
	}
}

// P18.4
func TestPlay(t *testing.T) {
	g := game(walk)
	for _, c := range []struct {
		joints, want string
		count        int
		wantError    api.Errno
	}{
		{"a", "2", 1, api.OK}, {"a;b;b", "3", 3, api.OK}, {"a;b;a;b;a;b;a;b;a;b;a;b;a;b;a;b;a;b;a;b;b;b;a", "6", 23, api.OK}, {"b;a", "4", 2, api.OK},
		{"b;a;a", "4", 2, api.ErrTerminal}, {"b;a;z", "4", 2, api.ErrTerminal}, {"b;b;a;a", "6", 3, api.ErrMove}, {"c", "1", 0, api.ErrMove}, {"a;c;b", "2", 1, api.ErrMove}, {"", "1", 0, api.ErrMove}, {"a;a,a", "2", 1, api.ErrMove}, {"b;b;b;a", "5", 2, api.ErrMove},
	} {
		if got, n, e := reach.Play(g, joints(c.joints)); printer.Terms(got) != c.want || n != c.count || e != c.wantError {
			t.Errorf("Play(%s) is %s, %d, %d, want %s, %d, %d", c.joints, printer.Terms(got), n, e, c.want, c.count, c.wantError)
		}
	}
	if got, n, e := reach.Play(g, nil); printer.Terms(got) != "1" || n != 0 || e != api.OK {
		t.Error(printer.Terms(got), n, e)
	}
	for _, g := range []*logic.Game{nil, {}} {
		for _, l := range [][][]api.Term{nil, joints("a")} {
			if got, n, e := reach.Play(g, l); len(got) > 0 || n != 0 || e != api.ErrInvalid {
				t.Error(printer.Terms(got), n, e)
			}
		}
	}
}

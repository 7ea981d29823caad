package logic_test

import (
	"fmt"
	"slices"
	"strings"
	"testing"

	"gameplayer/api"
	"gameplayer/check"
	"gameplayer/logic"
	"gameplayer/printer"
	"gameplayer/relax"
	"gameplayer/sample"
)

var terms = sample.Terms

// game makes a game from its description.
func game(text string) *logic.Game {
	g, e := logic.New(sample.Rules(text))
	if e != api.OK {
		panic(text)
	}
	return g
}

// facts are the facts of a relation for the numbers from 1 to n.
func facts(relation string, n int) string {
	var text strings.Builder
	for i := range n {
		fmt.Fprintf(&text, "%s(%d). ", relation, i+1)
	}
	return text.String()
}

// list shows lists of terms.
func list(l [][]api.Term) string {
	var texts []string
	for _, x := range l {
		texts = append(texts, printer.Terms(x))
	}
	return strings.Join(texts, "; ")
}

// The examples of the chapter
func TestExamples(t *testing.T) {
	g := game(sample.Lamp)
	s := g.Initial()
	joints, e := g.Joints(s)
	if printer.Terms(s) != "s" || list(joints) != "a, c; b, c" || e != api.OK {
		t.Fatal(printer.Terms(s), list(joints), e)
	}
	stay, e := g.Next(s, joints[0])
	if printer.Terms(stay) != "s" || e != api.OK {
		t.Error(printer.Terms(stay), e)
	}
	end, e := g.Next(s, joints[1])
	if len(end) != 0 || e != api.OK || !g.Valid(end) {
		t.Error(printer.Terms(end), e)
	}
	if ends, e := g.Terminal(end); !ends || e != api.OK {
		t.Error(ends, e)
	}
	if n, e := g.Goal(end, 0); n != 100 || e != api.OK {
		t.Error(n, e)
	}
	if n, e := g.Goal(s, 0); n != 0 || e != api.ErrGoal {
		t.Error(n, e)
	}
	if n, e := g.Goal(s, 1); n != 0 || e != api.OK {
		t.Error(n, e)
	}
	if l, e := g.Legal(end, 0); printer.Terms(l) != "a, b" || e != api.OK {
		t.Error(printer.Terms(l), e)
	}
	if l, e := g.Joints(end); len(l) > 0 || e != api.ErrTerminal {
		t.Error(list(l), e)
	}
	if l, e := g.Legal(end, 2); len(l) > 0 || e != api.ErrRole {
		t.Error(printer.Terms(l), e)
	}
	if n, e := g.Next(s, terms("a")); len(n) > 0 || e != api.ErrMove {
		t.Error(printer.Terms(n), e)
	}
}

// P17.1: the error of check.Rules, then that of relax.Atoms
func TestNewErrors(t *testing.T) {
	const deep = "p(f(X)) if p(X). p(a). "
	const square = "m(X,Y) if n(X) and n(Y). "
	for i, c := range []struct {
		l    []api.Rule
		want api.Errno
	}{
		{sample.Rules("role(x)."), api.OK}, {sample.Rules(sample.Lamp), api.OK}, {nil, api.ErrRole}, {[]api.Rule{}, api.ErrRole}, {sample.Rules("role(chance)."), api.ErrRole},
		{sample.Rules("role(a). role(b). role(c). role(d). role(e)."), api.ErrRole}, {sample.Rules("role(x). legal(x,a) if p. p if does(x,a)."), api.ErrDepends}, {sample.Rules("role(x). p if not p."), api.ErrCycle},
		{append(sample.Rules("role(x)."), api.Rule{Head: api.Term{Name: "007"}}), api.ErrName}, {sample.Rules("role(x). p(X) if not q(X)."), api.ErrUnsafe}, {sample.Rules("role(x). p(a). p."), api.ErrArity},
		{[]api.Rule{{Head: api.Term{Name: "true", Args: terms("a")}}}, api.ErrKeyword}, {slices.Repeat(sample.Rules("role(x)."), 129), api.ErrTooLong}, {slices.Repeat(sample.Rules("role(x)."), 128), api.OK},
		{sample.Rules("role(x). " + deep), api.ErrDepth}, {sample.Rules("role(x). " + square + facts("n", 23)), api.ErrTooLarge}, {sample.Rules("role(x). " + square + facts("n", 21)), api.OK},
		{sample.Rules(deep), api.ErrRole}, {sample.Rules(square + facts("n", 23)), api.ErrRole}, {sample.Rules("role(x). init(f(f(a))). next(f(X)) if true(X)."), api.ErrDepth}, {sample.Rules("role(x). q if not q. " + deep), api.ErrCycle},
		{sample.Rules("role(x). init(a). legal(x,f(X)) if true(X). next(X) if does(x,X) and not true(X)."), api.ErrDepth}, // possible are more and more, though none of them is reached
	} {
		g, e := logic.New(c.l)
		_, checked := check.Rules(c.l)
		_, related := relax.Atoms(c.l)
		if e != c.want || (g != nil) != (e == api.OK) || checked != api.OK && checked != e || related != e {
			t.Errorf("%d: New(%.80s) is %v, %d, want %d", i, fmt.Sprint(c.l), g, e, c.want)
		}
	}
}

// P17.2: what a game says of itself
func TestDescription(t *testing.T) {
	for _, c := range []struct {
		rules, roles string
		chance       int
		hidden       bool
		initial      string
	}{
		{"role(x).", "x", -1, false, ""},
		{"role(y). init(b). role(x). init(10). role(y). init(2). init(f(a)). init(a). init(b).", "y, x", -1, false, "2, 10, a, b, f(a)"},
		{"role(chance). role(x).", "chance, x", 0, false, ""},
		{"role(z). role(chance). role(a).", "z, chance, a", 1, false, ""},
		{"role(d). role(c). role(b). role(chance). role(b). role(d).", "d, c, b, chance", 3, false, ""},
		{"role(x). init(X) if p(X) and not q(X). p(b). p(a). p(c). q(b). init(R) if role(R). init(none) if r. init(some) if not r.", "x", -1, false, "a, c, some, x"},
		{"role(x). init(a). next(b) if true(a). next(a).", "x", -1, false, "a"},
		{"role(x). sees(x,a) if p. p if q. q if p.", "x", -1, true, ""},
		{"role(x). sees(y,a).", "x", -1, true, ""},
		{"role(x). percept(x,sees).", "x", -1, false, ""},
		{sample.Lamp, "x, y", -1, false, "s"},
		{sample.Coin, "chance, peek, guess", 0, true, "air"},
	} {
		l := sample.Rules(c.rules)
		g := game(c.rules)
		text, _ := printer.Rules(g.Rules())
		want, _ := printer.Rules(l)
		if text != want || len(g.Rules()) != len(l) {
			t.Errorf("Rules: %s, want %s", text, want)
		}
		if got := printer.Terms(g.Roles()); got != c.roles {
			t.Errorf("%s: Roles is %s, want %s", c.rules, got, c.roles)
		}
		if got := g.Chance(); got != c.chance {
			t.Errorf("%s: Chance is %d, want %d", c.rules, got, c.chance)
		}
		if got := g.Hidden(); got != c.hidden {
			t.Errorf("%s: Hidden is %v, want %v", c.rules, got, c.hidden)
		}
		if got := printer.Terms(g.Initial()); got != c.initial {
			t.Errorf("%s: Initial is %s, want %s", c.rules, got, c.initial)
		}
	}
}

// P17.2, R5: a nil game, and one that New did not return
func TestNoGame(t *testing.T) {
	for _, g := range []*logic.Game{nil, {}} {
		if g.Rules() != nil || g.Roles() != nil || g.Chance() != 0 || g.Hidden() || g.Initial() != nil || g.Valid(nil) || g.Valid(terms("s")) {
			t.Error("it has values")
		}
		ends, e := g.Terminal(nil)
		if ends || e != api.ErrInvalid {
			t.Error("Terminal", e)
		}
		for _, role := range []int{-1, 0, 1} {
			if n, e := g.Goal(nil, role); n != 0 || e != api.ErrInvalid {
				t.Error("Goal", e)
			}
			if l, e := g.Legal(nil, role); l != nil || e != api.ErrInvalid {
				t.Error("Legal", e)
			}
			if l, e := g.Sees(nil, nil, role); l != nil || e != api.ErrInvalid {
				t.Error("Sees", e)
			}
		}
		if l, e := g.Joints(nil); l != nil || e != api.ErrInvalid {
			t.Error("Joints", e)
		}
		if l, e := g.Next(nil, nil); l != nil || e != api.ErrInvalid {
			t.Error("Next", e)
		}
	}
}

// P17.3: states need not be reachable, but their terms are facts, each once and in their order.
func TestValid(t *testing.T) {
	const rules = `role(x). role(y). init(b). init(10). other(c). init(X) if other(X) and not other(X).
next(2) if true(2). next(f(X)) if true(X) and distinct(X,10) and not distinct(X,b). next(a) if does(x,m) and not does(y,m).
legal(x,m). legal(z,d). next(X) if does(z,X). next(n) if does(y,n). legal(x,k(X)) if true(X). terminal if true(t). goal(x,7).`
	// Possible are init(c) without the negation, and next(f(b)); d is the move of no role, and yet possible.
	g := game(rules)
	for _, c := range []struct {
		state string
		want  bool
	}{
		{"", true}, {"a", true}, {"b", true}, {"10", true}, {"c", true}, {"f(b)", true}, {"d", true},
		{"2", false}, {"n", false}, {"m", false}, {"t", false}, {"x", false}, {"7", false}, {"k(b)", false}, {"f(a)", false}, {"f(10)", false}, {"X", false}, {"f(X)", false}, {"f(b,b)", false}, {"true(b)", false}, {"init(b)", false}, {"1", false}, {"ten", false},
		{"10, a, b, c, d, f(b)", true}, {"10, b", true}, {"a, c, f(b)", true}, {"b, 10", false}, {"b, a", false}, {"f(b), a", false}, {"f(b), 10", false}, {"a, c, b", false}, {"10, a, b, d, c", false},
		{"a, a", false}, {"10, 10", false}, {"a, b, b", false}, {"f(b), f(b)", false}, {"a, b, k", false}, {"1, a", false}, {"10, m, n", false}, {"a, b, X", false},
	} {
		s := terms(c.state)
		if got := g.Valid(s); got != c.want {
			t.Errorf("Valid(%s) is %v", c.state, got)
		}
		wanted := api.ErrState
		if c.want {
			wanted = api.OK
		}
		for i, e := range stateErrors(g, s) {
			if e != wanted && (c.want == false || i < 2) {
				t.Errorf("%d: the error for %s is %d", i, c.state, e)
			}
		}
	}
	for _, x := range []api.Term{{}, {Name: "010"}, {Name: "f", Args: []api.Term{{}}}, {Name: "b", Args: terms("b")}} {
		if g.Valid([]api.Term{x}) {
			t.Error(x)
		}
	}
}

// stateErrors are the errors of the functions that are given a state: first those that have no other ones for a state.
func stateErrors(g *logic.Game, state []api.Term) []api.Errno {
	var errors [6]api.Errno
	_, errors[0] = g.Terminal(state)
	_, errors[1] = g.Legal(state, 0)
	_, errors[2] = g.Goal(state, 99)
	_, errors[3] = g.Joints(state)
	_, errors[4] = g.Next(state, nil)
	_, errors[5] = g.Sees(state, nil, -1)
	return errors[:]
}

// P17.3: whether a state is terminal
func TestTerminal(t *testing.T) {
	const frame = "role(x). init(a). init(b). legal(x,a). "
	for _, c := range []struct {
		rules, state string
		want         bool
	}{
		{"", "", false}, {"", "a, b", false}, {"terminal.", "", true}, {"terminal.", "a, b", true},
		{"terminal if true(a).", "a", true}, {"terminal if true(a).", "b", false}, {"terminal if true(a).", "", false}, {"terminal if true(a).", "a, b", true},
		{"terminal if not true(a).", "", true}, {"terminal if not true(a).", "a", false}, {"terminal if not true(a).", "b", true},
		{"terminal if p. p if not q. q if true(X) and not r(X). r(b).", "a", false}, {"terminal if p. p if not q. q if true(X) and not r(X). r(b).", "b", true}, {"terminal if p. p if not q. q if true(X) and not r(X). r(b).", "", true},
		{"terminal if true(X) and true(Y) and distinct(X,Y).", "a", false}, {"terminal if true(X) and true(Y) and distinct(X,Y).", "a, b", true},
		{"terminal if p. p if q. q if p.", "a", false}, {"legal(x,terminal). p(terminal).", "a", false},
	} {
		if got, e := game(frame + c.rules).Terminal(terms(c.state)); got != c.want || e != api.OK {
			t.Errorf("%s: Terminal(%s) is %v, %d", c.rules, c.state, got, e)
		}
	}
}

// P17.4: goal values, in any state
func TestGoal(t *testing.T) {
	const frame = "init(a). init(b). legal(x,a). legal(y,a). legal(chance,a). "
	const two = "role(x). role(y). "
	for _, c := range []struct {
		rules, state string
		role         int
		want         int
		wantError    api.Errno
	}{
		{two + "goal(x,0). goal(y,100).", "", 0, 0, api.OK}, {two + "goal(x,0). goal(y,100).", "", 1, 100, api.OK}, {two + "goal(x,0). goal(y,100). terminal.", "a", 1, 100, api.OK},
		{"role(y). role(x). goal(x,3). goal(y,4).", "", 0, 4, api.OK}, {"role(y). role(x). goal(x,3). goal(y,4).", "", 1, 3, api.OK},
		{two + "goal(x,5). goal(x,5) if true(a). goal(x,N) if p(N). p(5).", "a", 0, 5, api.OK}, {two + "goal(x,5). goal(x,6) if true(a).", "b", 0, 5, api.OK}, {two + "goal(x,5). goal(x,6) if true(a).", "a", 0, 0, api.ErrGoal}, {two + "goal(x,0). goal(x,100).", "a", 0, 0, api.ErrGoal},
		{two + "goal(x,5).", "a", 1, 0, api.ErrGoal}, {two + "goal(x,5) if true(a).", "b", 0, 0, api.ErrGoal}, {two + "goal(x,5) if not true(a).", "b", 0, 5, api.OK}, {two + "goal(R,5) if role(R). goal(z,7).", "b", 1, 5, api.OK},
		{two + "goal(x,101).", "", 0, 0, api.ErrGoal}, {two + "goal(x,101). goal(x,100). goal(x,9999).", "", 0, 100, api.OK}, {two + "goal(x,none).", "", 0, 0, api.ErrGoal}, {two + "goal(x,none). goal(x,1). goal(x,f(2)). goal(x,ten). goal(x,X) if true(X).", "a, b", 0, 1, api.OK}, {two + "goal(x,f(2)).", "", 0, 0, api.ErrGoal}, {two + "goal(5,x). goal(x,x). goal(y,2).", "", 0, 0, api.ErrGoal},
		{two + "goal(x,5).", "", -1, 0, api.ErrRole}, {two + "goal(x,5).", "", 2, 0, api.ErrRole}, {two + "goal(x,5).", "", 1 << 40, 0, api.ErrRole}, {two + "goal(x,5).", "", -1 << 63, 0, api.ErrRole}, {two, "", 2, 0, api.ErrRole},
		{two + "role(chance). goal(R,5) if role(R).", "", 2, 0, api.ErrRole}, {two + "role(chance). goal(R,5) if role(R).", "", 1, 5, api.OK}, {two + "role(chance). goal(R,5) if role(R).", "", 3, 0, api.ErrRole}, {two + "role(chance). goal(R,5) if role(R).", "", -1, 0, api.ErrRole}, {two + "role(chance).", "", 2, 0, api.ErrRole}, {"role(chance). role(x). goal(x,5).", "", 0, 0, api.ErrRole}, {"role(chance). role(x). goal(x,5).", "", 1, 5, api.OK},
		{two + "role(chance). goal(x,5).", "b, a", 2, 0, api.ErrState}, {two + "goal(x,5).", "c", 7, 0, api.ErrState}, {two + "goal(x,5).", "c", 0, 0, api.ErrState},
	} {
		if got, e := game(frame+c.rules).Goal(terms(c.state), c.role); got != c.want || e != c.wantError {
			t.Errorf("%s: Goal(%s, %d) is %d, %d, want %d, %d", c.rules, c.state, c.role, got, e, c.want, c.wantError)
		}
	}
}

// P17.5: legal moves, in any state
func TestLegal(t *testing.T) {
	const frame = "init(a). init(b). role(y). role(x). role(chance). "
	const many = " legal(x,X) if n(X). legal(y,X) if n(X) and true(b). legal(x,X) if true(X). "
	var numbers []string
	for i := range 64 {
		numbers = append(numbers, fmt.Sprint(i+1))
	}
	for _, c := range []struct {
		rules, state string
		role         int
		want         string
		wantError    api.Errno
	}{
		{"", "a", 0, "", api.OK}, {"legal(x,b). legal(x,10). legal(x,f(a)). legal(x,2). legal(x,a). legal(x,b) if true(a).", "a", 1, "2, 10, a, b, f(a)", api.OK}, {"legal(x,b).", "a", 0, "", api.OK}, {"legal(x,b). legal(y,c). legal(z,d).", "", 0, "c", api.OK},
		{"legal(R,X) if role(R) and true(X).", "a", 1, "a", api.OK}, {"legal(R,X) if role(R) and true(X).", "a, b", 2, "a, b", api.OK}, {"legal(R,X) if role(R) and true(X).", "", 2, "", api.OK}, {"legal(x,c) if not true(a).", "b", 1, "c", api.OK}, {"legal(x,c) if not true(a).", "a", 1, "", api.OK},
		{"legal(x,c). terminal.", "a", 1, "c", api.OK}, {"legal(x,X) if true(X). terminal if true(a).", "a, b", 1, "a, b", api.OK}, {"legal(x,R) if role(R) and distinct(R,x).", "", 1, "chance, y", api.OK},
		{facts("n", 64) + many, "", 1, strings.Join(numbers, ", "), api.OK}, {facts("n", 64) + many, "b", 0, strings.Join(numbers, ", "), api.OK}, {facts("n", 64) + many, "a", 1, "", api.ErrTooLarge}, {facts("n", 65) + many, "", 1, "", api.ErrTooLarge}, {facts("n", 65) + many, "", 0, "", api.OK}, {facts("n", 65) + many, "b", 0, "", api.ErrTooLarge}, {facts("n", 65) + many + "terminal.", "", 1, "", api.ErrTooLarge},
		{"legal(x,c).", "a", -1, "", api.ErrRole}, {"legal(x,c).", "a", 3, "", api.ErrRole}, {"legal(x,c).", "a", 1 << 62, "", api.ErrRole}, {facts("n", 65) + many, "a", 3, "", api.ErrRole}, {"legal(x,c).", "c", 1, "", api.ErrState}, {"legal(x,c).", "a, a", 3, "", api.ErrState}, {facts("n", 65) + many, "b, a", 1, "", api.ErrState},
	} {
		if got, e := game(frame+c.rules).Legal(terms(c.state), c.role); printer.Terms(got) != c.want || e != c.wantError {
			t.Errorf("%s: Legal(%s, %d) is %s, %d, want %s, %d", c.rules, c.state, c.role, printer.Terms(got), e, c.want, c.wantError)
		}
	}
}

// P17.5: joint moves, in lexicographic order
func TestJoints(t *testing.T) {
	for _, c := range []struct {
		rules, state string
		want         string
		wantError    api.Errno
	}{
		{"role(x). legal(x,b). legal(x,f(a)). legal(x,10). legal(x,2).", "", "2; 10; b; f(a)", api.OK},
		{"role(y). role(x). legal(x,b). legal(x,a). legal(y,2). legal(y,10). legal(y,1).", "", "1, a; 1, b; 2, a; 2, b; 10, a; 10, b", api.OK},
		{"role(x). role(chance). role(y). legal(x,a). legal(x,b). legal(chance,c). legal(chance,b). legal(y,X) if true(X).", "s, t", "a, b, s; a, b, t; a, c, s; a, c, t; b, b, s; b, b, t; b, c, s; b, c, t", api.OK},
		{"role(a). role(b). role(c). role(d). legal(R,R) if role(R). legal(b,e).", "", "a, b, c, d; a, e, c, d", api.OK},
		{"role(x). legal(x,a). legal(y,b). legal(y,c).", "", "a", api.OK},
		{"role(x). legal(x,X) if true(X). terminal if not true(s).", "s", "s", api.OK}, {"role(x). legal(x,a). terminal if not true(s).", "t", "", api.ErrTerminal}, {"role(x). terminal.", "s", "", api.ErrTerminal},
		{"role(x). legal(x,X) if true(X).", "", "", api.ErrMove}, {"role(x). role(y). legal(x,a). legal(x,b).", "", "", api.ErrMove}, {"role(x). role(chance). legal(x,a).", "", "", api.ErrMove}, {"role(chance). role(x). legal(x,a).", "", "", api.ErrMove}, {"role(x). role(y). role(z). legal(x,a). legal(z,a).", "", "", api.ErrMove}, {"role(x).", "", "", api.ErrMove},
		{"role(x). terminal. legal(x,a).", "c", "", api.ErrState}, {"role(x). legal(x,a).", "t, s", "", api.ErrState},
	} {
		if got, e := game("init(s). init(t). " + c.rules).Joints(terms(c.state)); list(got) != c.want || e != c.wantError {
			t.Errorf("%s: Joints(%s) is %s, %d, want %s, %d", c.rules, c.state, list(got), e, c.want, c.wantError)
		}
	}
}

// moves are rules with which some roles have numbers of legal moves.
func moves(counts ...int) string {
	var text strings.Builder
	for i, n := range counts {
		fmt.Fprintf(&text, "role(r%d). ", i)
		for j := range n {
			fmt.Fprintf(&text, "legal(r%d,%d). ", i, j)
		}
	}
	return text.String()
}

// P17.5: up to MaxMoves legal moves, and up to MaxJoint joint moves
func TestJointsLimits(t *testing.T) {
	for _, c := range []struct {
		counts []int
		want   api.Errno
	}{
		{[]int{64}, api.OK}, {[]int{65}, api.ErrTooLarge}, {[]int{1, 65}, api.ErrTooLarge}, {[]int{65, 1}, api.ErrTooLarge}, {[]int{64, 4}, api.OK}, {[]int{4, 64}, api.OK}, {[]int{16, 16}, api.OK}, {[]int{16, 17}, api.ErrTooLarge}, {[]int{43, 6}, api.ErrTooLarge}, {[]int{51, 5}, api.OK}, {[]int{52, 5}, api.ErrTooLarge}, {[]int{37, 7}, api.ErrTooLarge},
		{[]int{4, 4, 4, 4}, api.OK}, {[]int{4, 4, 4, 5}, api.ErrTooLarge}, {[]int{16, 16, 1, 1}, api.OK}, {[]int{1, 16, 1, 17}, api.ErrTooLarge}, {[]int{64, 1, 4, 1}, api.OK}, {[]int{32, 2, 2, 2}, api.OK}, {[]int{40, 40, 40}, api.ErrTooLarge}, {[]int{17, 16, 2, 2}, api.ErrTooLarge},
		{[]int{0, 65}, api.ErrMove}, {[]int{65, 0}, api.ErrMove}, {[]int{40, 40, 0}, api.ErrMove}, {[]int{64, 4, 2, 0}, api.ErrMove}, {[]int{0, 1}, api.ErrMove},
	} {
		g := game(moves(c.counts...))
		joints, e := g.Joints(nil)
		count := 1
		for i, n := range c.counts {
			count *= n
			if l, e := g.Legal(nil, i); len(l) != n && e == api.OK {
				t.Fatal(c.counts, i, len(l))
			}
		}
		if e != c.want || e == api.OK && len(joints) != count || e != api.OK && len(joints) > 0 {
			t.Errorf("%v: %d joint moves, %d, want %d", c.counts, len(joints), e, c.want)
		}
	}
}

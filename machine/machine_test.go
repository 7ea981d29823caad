package machine_test

import (
	"fmt"
	"slices"
	"strings"
	"testing"

	"gameplayer/api"
	"gameplayer/compile"
	"gameplayer/machine"
	"gameplayer/network"
	"gameplayer/printer"
	"gameplayer/sample"
	"gameplayer/simplify"
)

var terms = sample.Terms

// door is the game of the example of the chapter.
const door = "role(x). init(on). legal(x, stay) if true(on). legal(x, leave) if true(on). next(on) if does(x, stay). next(off) if does(x, leave). terminal if true(off). goal(x, 100) if true(off)."

// made makes a machine from a description.
func made(t *testing.T, text string) *machine.Machine {
	t.Helper()
	m, e := machine.New(sample.Rules(text))
	if m == nil || e != api.OK {
		t.Fatalf("%s: %d", text, e)
	}
	return m
}

// The examples of the chapter
func TestExamples(t *testing.T) {
	m := made(t, door)
	if printer.Terms(m.Net().Bases) != "off, on" || printer.Terms(m.Terms([]int{0, 1})) != "leave, stay" || !slices.Equal(m.Initial(), []int{1}) {
		t.Error(network.Text(m.Net()), m.Initial())
	}
	if next, e := m.Next([]int{1}, []int{0}); !slices.Equal(next, []int{0}) || e != api.OK {
		t.Error(next, e)
	}
	if ends, e := m.Terminal([]int{0}); !ends || e != api.OK {
		t.Error(ends, e)
	}
	if n, e := m.Goal([]int{0}, 0); n != 100 || e != api.OK {
		t.Error(n, e)
	}
	if n, e := m.Goal([]int{1}, 0); n != 0 || e != api.ErrGoal {
		t.Error(n, e)
	}
}

// facts are the facts of a relation for the numbers from 1 to n.
func facts(relation string, n int) string {
	var text strings.Builder
	for i := range n {
		fmt.Fprintf(&text, "%s(%d). ", relation, i+1)
	}
	return text.String()
}

// P28.1: the error of compile.Net
func TestNewErrors(t *testing.T) {
	const square = "m(X,Y) if n(X) and n(Y). "
	const cube = "init(f(X)) if n(X). init(g(X)) if n(X). init(h(X)) if n(X). p if true(f(X)) and true(g(Y)) and true(h(Z)). "
	for i, c := range []struct {
		l    []api.Rule
		want api.Errno
	}{
		{sample.Rules("role(x)."), api.OK}, {nil, api.ErrRole}, {[]api.Rule{}, api.ErrRole}, {sample.Rules("role(chance)."), api.ErrRole}, {sample.Rules("role(x). legal(x,a) if p. p if does(x,a)."), api.ErrDepends}, {sample.Rules("role(x). p if not p."), api.ErrCycle},
		{append(sample.Rules("role(x)."), api.Rule{Head: api.Term{Name: "007"}}), api.ErrName}, {sample.Rules("role(x). p(X) if not q(X)."), api.ErrUnsafe}, {sample.Rules("role(x). p(a). p."), api.ErrArity}, {[]api.Rule{{Head: api.Term{Name: "true", Args: terms("a")}}}, api.ErrKeyword},
		{slices.Repeat(sample.Rules("role(x)."), 129), api.ErrTooLong}, {slices.Repeat(sample.Rules("role(x)."), 128), api.OK}, {sample.Rules("role(x). p(f(X)) if p(X). p(a)."), api.ErrDepth},
		{sample.Rules("role(x). " + square + facts("n", 23)), api.ErrTooLarge}, {sample.Rules("role(x). " + square + facts("n", 21)), api.OK}, // atoms
		{sample.Rules("role(x). " + cube + facts("n", 13)), api.ErrTooLarge}, {sample.Rules("role(x). " + cube + facts("n", 12)), api.OK}, // ground rules
		{sample.Rules("role(x). r(X,Y) if s(X) and s(Y) and true(on). init(on). next(on). r(X,Z) if r(X,Y) and r(Y,Z). " + facts("s", 12)), api.ErrTooLarge}, // gates
		{sample.Rules(square + facts("n", 23)), api.ErrRole}, {sample.Rules("role(x). q if not q. p(f(X)) if p(X). p(a)."), api.ErrCycle},
	} {
		m, e := machine.New(c.l)
		net, also := compile.Net(c.l)
		if e != c.want || also != e || (m != nil) != (e == api.OK) {
			t.Errorf("%d: New(%.80s) is %d, want %d; compile.Net %d", i, fmt.Sprint(c.l), e, c.want, also)
		} else if got, want := network.Text(m.Net()), network.Text(simplify.Net(net)); got != want {
			t.Errorf("%d: %s, want %s", i, got, want)
		}
	}
}

// P28.2: what a machine says of its game
func TestDescription(t *testing.T) {
	for _, c := range []struct {
		rules, roles string
		chance       int
		hidden       bool
		initial      []int
	}{
		{"role(x).", "x", -1, false, nil},
		{"role(y). init(b). role(x). init(10). next(a). next(f(a)). init(f(a)). init(2).", "y, x", -1, false, []int{0, 1, 3, 4}},
		{"role(chance). role(x).", "chance, x", 0, false, nil},
		{"role(z). role(chance). role(a).", "z, chance, a", 1, false, nil},
		{"role(d). role(c). role(b). role(chance). init(chance).", "d, c, b, chance", 3, false, []int{0}},
		{"role(x). sees(x,a) if p. p if q. q if p.", "x", -1, true, nil},
		{"role(x). sees(y,a). init(a) if not p. init(b) if p. next(b).", "x", -1, true, []int{0}},
		{"role(x). percept(x,sees).", "x", -1, false, nil},
		{door, "x", -1, false, []int{1}},
		{sample.Coin, "chance, peek, guess", 0, true, []int{0}},
	} {
		m := made(t, c.rules)
		if got := printer.Terms(m.Roles()); got != c.roles {
			t.Errorf("%s: Roles %s, want %s", c.rules, got, c.roles)
		}
		if m.Chance() != c.chance || m.Hidden() != c.hidden || !slices.Equal(m.Initial(), c.initial) {
			t.Errorf("%s: %d, %v, %v", c.rules, m.Chance(), m.Hidden(), m.Initial())
		}
		net, e := compile.Net(sample.Rules(c.rules))
		if got, want := network.Text(m.Net()), network.Text(simplify.Net(net)); got != want || e != api.OK {
			t.Errorf("%s: %s, want %s, %d", c.rules, got, want, e)
		}
	}
}

// several is a game with the bases a (0), b (1), c (2) and the inputs m (0), n (1), m of y (2), n of y (3) and of chance o (4). Nothing is legal in the state c, and the states with a and b are terminal.
const several = `role(x). role(y). role(chance). init(a).
legal(x,m) if true(a). legal(x,n). legal(y,m) if not true(c). legal(y,n) if true(b). legal(chance,o).
next(a) if does(x,m) and does(y,m). next(b) if does(x,n). next(c) if does(x,n) and does(y,n). next(c) if true(c).
terminal if true(a) and true(b).
goal(x,100) if true(a). goal(x,40) if true(b). goal(y,7). goal(y,101). goal(chance,5).
sees(x,s) if does(y,m). sees(x,10) if does(x,m). sees(x,9) if true(a). sees(y,f(s)) if does(x,n).
`

// notStates are lists that are no states of a game with three bases.
var notStates = [][]int{{3}, {-1}, {1, 0}, {0, 0}, {0, 2, 1}, {0, 1, 2, 3}, {-1, 0}, {0, 1, 1}, {1 << 62}, {-1 << 63}}

// P28.3: whether states are terminal, and goal values
func TestTerminalAndGoal(t *testing.T) {
	m := made(t, several)
	for _, c := range []struct {
		state []int
		ends  bool
		goal  int
		e     api.Errno
	}{
		{nil, false, 0, api.ErrGoal}, {[]int{0}, false, 100, api.OK}, {[]int{1}, false, 40, api.OK}, {[]int{2}, false, 0, api.ErrGoal}, {[]int{0, 1}, true, 0, api.ErrGoal}, {[]int{0, 2}, false, 100, api.OK}, {[]int{1, 2}, false, 40, api.OK}, {[]int{0, 1, 2}, true, 0, api.ErrGoal},
	} {
		if ends, e := m.Terminal(c.state); ends != c.ends || e != api.OK {
			t.Errorf("Terminal(%v) is %v, %d", c.state, ends, e)
		}
		if n, e := m.Goal(c.state, 0); n != c.goal || e != c.e {
			t.Errorf("Goal(%v, 0) is %d, %d, want %d, %d", c.state, n, e, c.goal, c.e)
		}
		if n, e := m.Goal(c.state, 1); n != 7 || e != api.OK {
			t.Errorf("Goal(%v, 1) is %d, %d", c.state, n, e)
		}
		for _, role := range []int{-1, 2, 3, 1 << 62, -1 << 63} {
			if n, e := m.Goal(c.state, role); n != 0 || e != api.ErrRole {
				t.Errorf("Goal(%v, %d) is %d, %d", c.state, role, n, e)
			}
		}
	}
	for _, state := range notStates {
		if ends, e := m.Terminal(state); ends || e != api.ErrState {
			t.Errorf("Terminal(%v) is %v, %d", state, ends, e)
		}
		for _, role := range []int{0, 1, 2, 3, -1} {
			if n, e := m.Goal(state, role); n != 0 || e != api.ErrState {
				t.Errorf("Goal(%v, %d) is %d, %d", state, role, n, e)
			}
		}
	}
}

// P28.3: legal moves, also in terminal states and of chance
func TestLegal(t *testing.T) {
	m := made(t, several)
	for _, c := range []struct {
		state []int
		want  string
	}{
		{nil, "[1] [2] [4]"}, {[]int{0}, "[0 1] [2] [4]"}, {[]int{1}, "[1] [2 3] [4]"}, {[]int{2}, "[1] [] [4]"}, {[]int{0, 1}, "[0 1] [2 3] [4]"}, {[]int{0, 2}, "[0 1] [] [4]"}, {[]int{1, 2}, "[1] [3] [4]"}, {[]int{0, 1, 2}, "[0 1] [3] [4]"},
	} {
		var got []string
		for role := range 3 {
			l, e := m.Legal(c.state, role)
			if e != api.OK {
				t.Error(c.state, role, e)
			}
			got = append(got, fmt.Sprint(l))
		}
		if strings.Join(got, " ") != c.want {
			t.Errorf("%v: %v, want %s", c.state, got, c.want)
		}
		for _, role := range []int{-1, 3, 1 << 62, -1 << 63} {
			if l, e := m.Legal(c.state, role); len(l) > 0 || e != api.ErrRole {
				t.Errorf("Legal(%v, %d) is %v, %d", c.state, role, l, e)
			}
		}
	}
	for _, state := range notStates {
		for _, role := range []int{0, 1, 2, 3, -1} {
			if l, e := m.Legal(state, role); len(l) > 0 || e != api.ErrState {
				t.Errorf("Legal(%v, %d) is %v, %d", state, role, l, e)
			}
		}
	}
}

// P28.4: joint moves
func TestJoints(t *testing.T) {
	m := made(t, several)
	for _, c := range []struct {
		state []int
		want  string
		e     api.Errno
	}{
		{nil, "[[1 2 4]]", api.OK}, {[]int{0}, "[[0 2 4] [1 2 4]]", api.OK}, {[]int{1}, "[[1 2 4] [1 3 4]]", api.OK}, {[]int{2}, "[]", api.ErrMove}, {[]int{0, 1}, "[]", api.ErrTerminal}, {[]int{0, 2}, "[]", api.ErrMove}, {[]int{1, 2}, "[[1 3 4]]", api.OK}, {[]int{0, 1, 2}, "[]", api.ErrTerminal},
	} {
		if l, e := m.Joints(c.state); fmt.Sprint(l) != c.want || e != c.e {
			t.Errorf("Joints(%v) is %v, %d, want %s, %d", c.state, l, e, c.want, c.e)
		}
	}
	for _, state := range notStates {
		if l, e := m.Joints(state); len(l) > 0 || e != api.ErrState {
			t.Errorf("Joints(%v) is %v, %d", state, l, e)
		}
	}
	l, e := made(t, "role(y). role(x). legal(x,b). legal(x,a). legal(y,2). legal(y,10).").Joints(nil)
	if fmt.Sprint(l) != "[[0 2] [0 3] [1 2] [1 3]]" || e != api.OK {
		t.Error(l, e)
	}
}

// P28.5: next states and percepts
func TestNextAndSees(t *testing.T) {
	m := made(t, several)
	for _, c := range []struct {
		state, joint, next []int
		sees               [3]string
	}{
		{nil, []int{1, 2, 4}, []int{1}, [3]string{"s", "f(s)", ""}}, {[]int{0}, []int{0, 2, 4}, []int{0}, [3]string{"9, 10, s", "", ""}}, {[]int{0}, []int{1, 2, 4}, []int{1}, [3]string{"9, s", "f(s)", ""}},
		{[]int{1}, []int{1, 2, 4}, []int{1}, [3]string{"s", "f(s)", ""}}, {[]int{1}, []int{1, 3, 4}, []int{1, 2}, [3]string{"", "f(s)", ""}}, {[]int{1, 2}, []int{1, 3, 4}, []int{1, 2}, [3]string{"", "f(s)", ""}},
	} {
		if next, e := m.Next(c.state, c.joint); !slices.Equal(next, c.next) || e != api.OK {
			t.Errorf("Next(%v, %v) is %v, %d, want %v", c.state, c.joint, next, e, c.next)
		}
		for role, want := range c.sees {
			if l, e := m.Sees(c.state, c.joint, role); printer.Terms(l) != want || e != api.OK {
				t.Errorf("Sees(%v, %v, %d) is %s, %d, want %s", c.state, c.joint, role, printer.Terms(l), e, want)
			}
		}
		fails(t, m, c.state, c.joint, -1, api.OK, api.ErrRole)
		fails(t, m, c.state, c.joint, 3, api.OK, api.ErrRole)
	}
}

// fails checks the errors of Next and of Sees. With an error there is nothing else.
func fails(t *testing.T, m *machine.Machine, state, joint []int, role int, next, sees api.Errno) {
	t.Helper()
	if l, e := m.Next(state, joint); e != next || e != api.OK && len(l) > 0 {
		t.Errorf("Next(%v, %v) is %v, %d, want %d", state, joint, l, e, next)
	}
	if l, e := m.Sees(state, joint, role); e != sees || e != api.OK && len(l) > 0 {
		t.Errorf("Sees(%v, %v, %d) is %v, %d, want %d", state, joint, role, l, e, sees)
	}
}

// P28.5: what is no joint move, and the order of errors
func TestNextAndSeesErrors(t *testing.T) {
	m := made(t, several)
	notJoints := [][]int{
		nil, {}, {0}, {0, 2}, {0, 2, 4, 4}, {0, 2, 4, 0}, {2, 0, 4}, {4, 2, 0}, {0, 0, 4}, {2, 2, 4}, {1, 3, 4}, {0, 2, 5}, {0, 2, -1}, {-1, 2, 4}, {0, -1, 4}, {5, 2, 4}, {0, 2, 1 << 62}, {-1 << 63, 2, 4}, {0, 4, 2}, {0, 2, 2}, {0, 2, 3},
	}
	for _, joint := range notJoints {
		fails(t, m, []int{0}, joint, 0, api.ErrMove, api.ErrMove)
		fails(t, m, []int{0}, joint, 3, api.ErrMove, api.ErrRole)
		fails(t, m, []int{0, 1}, joint, 2, api.ErrTerminal, api.ErrTerminal)
		fails(t, m, []int{0, 1}, joint, -1, api.ErrTerminal, api.ErrRole)
	}
	for _, joint := range append(notJoints, []int{0, 2, 4}) {
		fails(t, m, []int{0, 1, 2}, joint, 1, api.ErrTerminal, api.ErrTerminal)
		for _, state := range notStates {
			fails(t, m, state, joint, 0, api.ErrState, api.ErrState)
			fails(t, m, state, joint, 3, api.ErrState, api.ErrState)
		}
	}
	fails(t, m, []int{1}, []int{0, 2, 4}, 0, api.ErrMove, api.ErrMove) // m is legal only if a holds
	fails(t, m, []int{2}, []int{1, 2, 4}, 0, api.ErrMove, api.ErrMove)
	fails(t, m, []int{2}, []int{1, 3, 4}, 0, api.ErrMove, api.ErrMove)
}

// P28.3 to P28.5: up to MaxMoves legal moves and up to MaxJoint joint moves, but also more for Next and Sees
func TestLimits(t *testing.T) {
	for _, c := range []struct {
		counts []int
		want   api.Errno
	}{
		{[]int{64}, api.OK}, {[]int{65}, api.ErrTooLarge}, {[]int{1, 65}, api.ErrTooLarge}, {[]int{64, 4}, api.OK}, {[]int{16, 16}, api.OK}, {[]int{16, 17}, api.ErrTooLarge}, {[]int{43, 6}, api.ErrTooLarge}, {[]int{51, 5}, api.OK}, {[]int{52, 5}, api.ErrTooLarge},
		{[]int{4, 4, 4, 4}, api.OK}, {[]int{4, 4, 4, 5}, api.ErrTooLarge}, {[]int{17, 16, 2, 2}, api.ErrTooLarge}, {[]int{0, 65}, api.ErrMove}, {[]int{65, 0}, api.ErrMove}, {[]int{40, 40, 0}, api.ErrMove}, {[]int{0}, api.ErrMove},
	} {
		text := "init(s). next(s) if true(s). "
		for i, n := range c.counts {
			text += fmt.Sprintf("role(r%d). sees(r%d,M) if does(r%d,M). ", i, i, i)
			for j := range n {
				text += fmt.Sprintf("legal(r%d,%d). ", i, j)
			}
		}
		m := made(t, text)
		count := 1
		var joint []int
		for i, n := range c.counts {
			count *= n
			joint = append(joint, m.Input(i, api.Term{Name: fmt.Sprint(n - 1)}))
			want := api.OK
			if n > 64 {
				want = api.ErrTooLarge
			}
			if l, e := m.Legal([]int{0}, i); e != want || e == api.OK && len(l) != n || e != api.OK && len(l) > 0 {
				t.Errorf("%v: Legal of %d is %v, %d", c.counts, i, l, e)
			}
		}
		if l, e := m.Joints([]int{0}); e != c.want || e == api.OK && (len(l) != count || !slices.Equal(l[count-1], joint)) || e != api.OK && len(l) > 0 {
			t.Errorf("%v: %d joint moves, %d, want %d", c.counts, len(l), e, c.want)
		}
		want := api.OK
		if count == 0 {
			want = api.ErrMove
		}
		fails(t, m, []int{0}, joint, 0, want, want)
	}
}

// P28.6: facts and states, moves and inputs
func TestNames(t *testing.T) {
	m := made(t, several)
	for bits := range 8 {
		var state []int
		var l []api.Term
		for i, f := range terms("a, b, c") {
			if bits>>i&1 == 1 {
				state, l = append(state, i), append(l, f)
			}
		}
		if got := m.Facts(state); printer.Terms(got) != printer.Terms(l) {
			t.Errorf("Facts(%v) is %s", state, printer.Terms(got))
		}
		if got, e := m.State(l); !slices.Equal(got, state) || e != api.OK {
			t.Errorf("State(%s) is %v, %d", printer.Terms(l), got, e)
		}
	}
	for _, state := range notStates {
		if got := m.Facts(state); len(got) > 0 {
			t.Errorf("Facts(%v) is %s", state, printer.Terms(got))
		}
	}
	for _, text := range []string{"d", "A", "b, a", "a, a", "a, c, b", "a, b, c, d", "a, d", "1, a", "f(a)", "a, b, b", "x", "true(a)"} {
		if got, e := m.State(terms(text)); len(got) > 0 || e != api.ErrState {
			t.Errorf("State(%s) is %v, %d", text, got, e)
		}
	}
	for input, text := range []string{"m", "n", "m", "n", "o"} {
		role := []int{0, 0, 1, 1, 2}[input]
		if got := m.Move(input); printer.Terms([]api.Term{got}) != text {
			t.Errorf("Move(%d) is %v", input, got)
		}
		if got := m.Input(role, api.Term{Name: text}); got != input {
			t.Errorf("Input(%d, %s) is %d, want %d", role, text, got, input)
		}
	}
	for _, input := range []int{-1, 5, 1 << 62, -1 << 63} {
		if got := m.Move(input); got.Name != "" || len(got.Args) > 0 {
			t.Errorf("Move(%d) is %v", input, got)
		}
	}
	for _, c := range []struct {
		role int
		move string
	}{{0, "o"}, {0, "a"}, {2, "m"}, {1, "o"}, {3, "m"}, {-1, "m"}, {1 << 62, "m"}, {0, "M"}, {0, "f(m)"}, {0, "m(n)"}, {0, "legal(x,m)"}} {
		if got := m.Input(c.role, terms(c.move)[0]); got != -1 {
			t.Errorf("Input(%d, %s) is %d", c.role, c.move, got)
		}
	}
	for _, c := range []struct {
		joint []int
		want  string
	}{{nil, "[]"}, {[]int{0, 2, 4}, "[{m []} {m []} {o []}]"}, {[]int{4, 1, 1, 0}, "[{o []} {n []} {n []} {m []}]"}, {[]int{5, 0, -1}, "[{ []} {m []} { []}]"}} {
		if got := fmt.Sprint(m.Terms(c.joint)); got != c.want {
			t.Errorf("Terms(%v) is %s, want %s", c.joint, got, c.want)
		}
	}
}

// Facts and moves with arguments
func TestNestedNames(t *testing.T) {
	m := made(t, "role(y). role(x). init(p(f(a),2)). init(p(f(a),10)). init(q(b)). legal(x,g(a,h(b))). legal(y,g(a,h(b))) if true(q(b)). legal(y,g(a,h(c))).")
	if got := printer.Terms(m.Facts(m.Initial())); got != "q(b), p(f(a),2), p(f(a),10)" {
		t.Error(got)
	}
	if got, e := m.State(terms("q(b), p(f(a),10)")); !slices.Equal(got, []int{0, 2}) || e != api.OK {
		t.Error(got, e)
	}
	if got, e := m.State(terms("q(b), p(f(b),10)")); len(got) > 0 || e != api.ErrState {
		t.Error(got, e)
	}
	for input, c := range []struct {
		role int
		move string
	}{{0, "g(a,h(b))"}, {0, "g(a,h(c))"}, {1, "g(a,h(b))"}} {
		if got := m.Input(c.role, terms(c.move)[0]); got != input || printer.Terms([]api.Term{m.Move(input)}) != c.move {
			t.Errorf("%d: %d, %v", input, got, m.Move(input))
		}
	}
	if got := m.Input(1, terms("g(a,h(c))")[0]); got != -1 {
		t.Error(got)
	}
}

// A nil machine, and those that New did not return, also copies of one that it did
func TestNoMachine(t *testing.T) {
	copied := *made(t, door)
	for i, m := range []*machine.Machine{nil, {}, new(machine.Machine), &copied} {
		if sample.ShowNet(m.Net()) != sample.ShowNet(api.Net{}) || m.Roles() != nil || m.Chance() != -1 || m.Hidden() || m.Initial() != nil || m.Facts(nil) != nil || m.Facts([]int{1}) != nil || m.Move(0).Name != "" || m.Input(0, api.Term{Name: "stay"}) != -1 || m.Terms([]int{0}) != nil {
			t.Errorf("%d has values", i)
		}
		for _, state := range [][]int{nil, {0}, {1}, {9}} {
			if ends, e := m.Terminal(state); ends || e != api.ErrInvalid {
				t.Errorf("%d: Terminal %v, %d", i, ends, e)
			}
			if l, e := m.Joints(state); l != nil || e != api.ErrInvalid {
				t.Errorf("%d: Joints %v, %d", i, l, e)
			}
			for _, role := range []int{-1, 0, 1} {
				if n, e := m.Goal(state, role); n != 0 || e != api.ErrInvalid {
					t.Errorf("%d: Goal %d, %d", i, n, e)
				}
				if l, e := m.Legal(state, role); l != nil || e != api.ErrInvalid {
					t.Errorf("%d: Legal %v, %d", i, l, e)
				}
				if l, e := m.Sees(state, []int{0}, role); l != nil || e != api.ErrInvalid {
					t.Errorf("%d: Sees %v, %d", i, l, e)
				}
			}
			if l, e := m.Next(state, []int{0}); l != nil || e != api.ErrInvalid {
				t.Errorf("%d: Next %v, %d", i, l, e)
			}
		}
		if l, e := m.State(terms("on")); l != nil || e != api.ErrInvalid {
			t.Errorf("%d: State %v, %d", i, l, e)
		}
		if l, e := m.State(nil); l != nil || e != api.ErrInvalid {
			t.Errorf("%d: State %v, %d", i, l, e)
		}
	}
}

package evaluate_test

import (
	"fmt"
	"strings"
	"testing"

	"gameplayer/api"
	"gameplayer/evaluate"
	"gameplayer/network"
	"gameplayer/sample"
	"gameplayer/term"
)

// mixed is a network with gates of all kinds and two roles. Gate 4 is a second one of base 0, and no gate is one of input 2.
const mixed = `0 base 1
1 input 1
2 false
3 base 0
4 base 0
5 true
6 input 0
7 and 0 3
8 or 1 6
9 not 8
10 and 3 5 9
11 or 2 7 10
12 not 11
13 and 6
14 or 0
15 and 0 2
16 or 4 5
role 0 x
role 1 chance
fact 0 a
fact 1 f(b)
move 0 0 2
move 1 0 f(g(c))
move 2 1 a
initial 1
next 0 12
next 1 8
legal 0 9
legal 1 1
legal 2 11
goal 0 0 12
goal 0 30 9
goal 0 100 7
goal 1 0 8
goal 1 50 16
sees 0 a 8
sees 0 f(g(c)) 13
sees 1 10 12
sees 1 b 5
terminal 10
hidden
`

// bits shows values as digits.
func bits(l []bool) string {
	var b strings.Builder
	for _, v := range l {
		b.WriteByte("01"[map[bool]int{true: 1}[v]])
	}
	return b.String()
}

// texts shows terms.
func texts(l []api.Term) string {
	var words []string
	for _, x := range l {
		words = append(words, term.Text(x))
	}
	return strings.Join(words, " ")
}

// results shows all that the functions return for a network, a state and a set of inputs.
func results(n api.Net, state, inputs []int) string {
	values, a := evaluate.Values(n, state, inputs)
	next, b := evaluate.Next(n, state, inputs)
	legal, c := evaluate.Legal(n, state)
	ends, d := evaluate.Terminal(n, state)
	text := fmt.Sprintf("%s %d; next %v %d; legal %v %d; terminal %v %d", bits(values), a, next, b, legal, c, ends, d)
	for role := range n.Roles {
		goals, a := evaluate.Goals(n, state, role)
		sees, b := evaluate.Sees(n, state, inputs, role)
		text += fmt.Sprintf("; goals %v %d; sees [%s] %d", goals, a, texts(sees), b)
	}
	return text
}

// The examples of the chapter
func TestExamples(t *testing.T) {
	n := sample.Net(sample.Switch)
	for state, want := range map[int]string{
		1: "100 0; next [] 0; legal [0] 0; terminal false 0; goals [] 0; sees [] 0",
		0: "010 0; next [] 0; legal [] 0; terminal true 0; goals [] 0; sees [] 0",
	} {
		if got := results(n, []int{0}[:state], nil); got != want {
			t.Errorf("%s, want %s", got, want)
		}
	}
	if _, e := evaluate.Values(n, []int{1}, nil); e != api.ErrState {
		t.Error(e)
	}
	if _, e := evaluate.Values(n, []int{0}, []int{0, 0}); e != api.ErrMove {
		t.Error(e)
	}
	if _, e := evaluate.Goals(n, nil, 1); e != api.ErrRole {
		t.Error(e)
	}
}

// P23.1 to P23.4: what a network with gates of all kinds computes
func TestMixed(t *testing.T) {
	n := sample.Net(mixed)
	for _, c := range []struct {
		state, inputs []int
		want          string
	}{
		{nil, nil, "00000100010010001 0; next [0] 0; legal [0] 0; terminal false 0; goals [0 30] 0; sees [] 0; goals [50] 0; sees [10 b] 0"},
		{[]int{0}, nil, "00011100011100001 0; next [] 0; legal [0 2] 0; terminal true 0; goals [30] 0; sees [] 0; goals [50] 0; sees [b] 0"},
		{[]int{1}, nil, "10000100010010101 0; next [0] 0; legal [0] 0; terminal false 0; goals [0 30] 0; sees [] 0; goals [50] 0; sees [10 b] 0"},
		{[]int{0, 1}, nil, "10011101011100101 0; next [] 0; legal [0 2] 0; terminal true 0; goals [30 100] 0; sees [] 0; goals [50] 0; sees [b] 0"},
		{nil, []int{0}, "00000110100011001 0; next [0 1] 0; legal [0] 0; terminal false 0; goals [0 30] 0; sees [a f(g(c))] 0; goals [50] 0; sees [10 b] 0"},
		{nil, []int{1}, "01000100100010001 0; next [0 1] 0; legal [0] 0; terminal false 0; goals [0 30] 0; sees [a] 0; goals [50] 0; sees [10 b] 0"},
		{nil, []int{2}, "00000100010010001 0; next [0] 0; legal [0] 0; terminal false 0; goals [0 30] 0; sees [] 0; goals [50] 0; sees [10 b] 0"},
		{[]int{0}, []int{1, 2}, "01011100100010001 0; next [0 1] 0; legal [0 2] 0; terminal true 0; goals [30] 0; sees [a] 0; goals [50] 0; sees [10 b] 0"},
		{[]int{0, 1}, []int{0, 1, 2}, "11011111100101101 0; next [1] 0; legal [0 2] 0; terminal true 0; goals [30 100] 0; sees [a f(g(c))] 0; goals [50] 0; sees [b] 0"},
	} {
		if got := results(n, c.state, c.inputs); got != c.want {
			t.Errorf("%v, %v: %s, want %s", c.state, c.inputs, got, c.want)
		}
	}
}

// P23.1: each kind of gate, for all values of what it reads
func TestKinds(t *testing.T) {
	n := sample.Net("0 base 0\n1 base 1\n2 input 0\n3 and 0 1 2\n4 or 0 1 2\n5 and 1\n6 or 1\n7 not 1\n8 false\n9 true\n10 and 0 2\n11 or 0 2\nrole 0 x\nfact 0 a\nfact 1 b\nmove 0 0 a\ninitial\nnext 0 0\nnext 1 0\nlegal 0 0\nterminal 0\n")
	for _, c := range []struct{ given, want string }{
		{"000", "000000010100"}, {"001", "001010010101"}, {"010", "010011100100"}, {"011", "011011100101"},
		{"100", "100010010101"}, {"101", "101010010111"}, {"110", "110011100101"}, {"111", "111111100111"},
	} {
		var given [2][]int
		for i, list := range []int{0, 0, 1} {
			if c.given[i] == '1' {
				given[list] = append(given[list], i%2)
			}
		}
		if got, e := evaluate.Values(n, given[0], given[1]); bits(got) != c.want || e != api.OK {
			t.Errorf("%s: %s, %d, want %s", c.given, bits(got), e, c.want)
		}
	}
}

// P23.3, P23.4: Legal, Terminal and Goals are for no inputs, whatever the gates read; Sees is for those that are given.
func TestGatesOfInputs(t *testing.T) {
	n := sample.Net("0 input 0\n1 not 0\nrole 0 x\nfact 0 s\nmove 0 0 a\nmove 1 0 b\ninitial\nnext 0 0\nlegal 0 0\nlegal 1 1\ngoal 0 1 0\ngoal 0 2 1\nsees 0 a 0\nsees 0 b 1\nterminal 1\n")
	for _, c := range []struct {
		inputs []int
		want   string
	}{
		{nil, "01 0; next [] 0; legal [1] 0; terminal true 0; goals [2] 0; sees [b] 0"},
		{[]int{0}, "10 0; next [0] 0; legal [1] 0; terminal true 0; goals [2] 0; sees [a] 0"},
		{[]int{1}, "01 0; next [] 0; legal [1] 0; terminal true 0; goals [2] 0; sees [b] 0"},
		{[]int{0, 1}, "10 0; next [0] 0; legal [1] 0; terminal true 0; goals [2] 0; sees [a] 0"},
	} {
		if got := results(n, nil, c.inputs); got != c.want {
			t.Errorf("%v: %s, want %s", c.inputs, got, c.want)
		}
	}
	n.Terminal = 0
	if ends, e := evaluate.Terminal(n, []int{0}); ends || e != api.OK {
		t.Error(ends, e)
	}
}

// P23.4: goals and percepts of one role only, each list in its order
func TestRoles(t *testing.T) {
	n := sample.Net("0 true\n1 base 0\nrole 0 x\nrole 1 y\nrole 2 chance\nfact 0 s\ninitial\nnext 0 0\ngoal 0 7 0\ngoal 0 10 1\ngoal 0 100 0\ngoal 2 0 0\ngoal 2 9 0\nsees 0 2 0\nsees 0 10 0\nsees 0 a 1\nsees 0 f(2) 0\nsees 1 a 1\nterminal 1\n")
	for role, want := range []string{"[7 100] [2 10 f(2)]", "[] []", "[0 9] []"} {
		goals, e := evaluate.Goals(n, nil, role)
		sees, also := evaluate.Sees(n, nil, nil, role)
		if got := fmt.Sprintf("%v [%s]", goals, texts(sees)); got != want || e != api.OK || also != api.OK {
			t.Errorf("%d: %s, %d, %d, want %s", role, got, e, also, want)
		}
	}
	for role, want := range []string{"[7 10 100] [2 10 a f(2)]", "[] [a]", "[0 9] []"} {
		goals, _ := evaluate.Goals(n, []int{0}, role)
		sees, _ := evaluate.Sees(n, []int{0}, nil, role)
		if got := fmt.Sprintf("%v [%s]", goals, texts(sees)); got != want {
			t.Errorf("%d: %s, want %s", role, got, want)
		}
	}
}

// fails checks the errors of all functions, and that there are no other results. Legal, Terminal and Goals have no inputs, and only Goals and Sees a role: for these other errors are given.
func fails(t *testing.T, n api.Net, state, inputs []int, role int, values, sees, legal, goals api.Errno) {
	t.Helper()
	all, a := evaluate.Values(n, state, inputs)
	next, b := evaluate.Next(n, state, inputs)
	moves, c := evaluate.Legal(n, state)
	ends, d := evaluate.Terminal(n, state)
	numbers, e := evaluate.Goals(n, state, role)
	percepts, f := evaluate.Sees(n, state, inputs, role)
	if a != values || b != values || c != legal || d != legal || e != goals || f != sees {
		t.Errorf("%v, %v, %d: %d %d, %d %d, %d, %d, want %d, %d, %d, %d", state, inputs, role, a, b, c, d, e, f, values, legal, goals, sees)
	}
	for i, wrong := range []bool{a != api.OK && len(all) > 0, b != api.OK && len(next) > 0, c != api.OK && len(moves) > 0, d != api.OK && ends, e != api.OK && len(numbers) > 0, f != api.OK && len(percepts) > 0} {
		if wrong {
			t.Errorf("%v, %v, %d: a result beside the error of function %d", state, inputs, role, i)
		}
	}
}

// P23.1 to P23.4: the errors, and their order
func TestErrors(t *testing.T) {
	const none, state, move, role = api.OK, api.ErrState, api.ErrMove, api.ErrRole
	n := sample.Net(mixed)
	n.Terminal = 5
	states := [][]int{{2}, {-1}, {1 << 62}, {-1 << 63}, {0, 0}, {1, 0}, {0, 2}, {-1, 0}, {0, 1, 1}, {0, 1, 2}}
	sets := [][]int{{3}, {-1}, {1 << 62}, {-1 << 63}, {0, 0}, {1, 0}, {0, 2, 1}, {0, 3}, {-1, 0}, {0, 1, 2, 2}, {0, 1, 2, 3}}
	for _, s := range states {
		fails(t, n, s, []int{0}, 0, state, state, state, state)
		fails(t, n, s, sets[0], 9, state, state, state, state)
	}
	for _, l := range sets {
		fails(t, n, []int{0, 1}, l, 1, move, move, none, none)
		fails(t, n, nil, l, 2, move, move, none, role)
	}
	for _, r := range []int{-1, 2, 1 << 62, -1 << 63} {
		fails(t, n, []int{0}, []int{2}, r, none, role, none, role)
	}
	fails(t, n, []int{0}, []int{2}, 1, none, none, none, none)
}

// P23.1 to P23.4: networks that are not valid
func TestNotValid(t *testing.T) {
	const invalid = api.ErrInvalid
	late, unordered, index, goals := sample.Net(mixed), sample.Net(mixed), sample.Net(mixed), sample.Net(mixed)
	late.Terminal = 17
	unordered.Gates[7].In = []int{3, 0}
	index.Gates[0].Index = 2
	goals.Goals[0].Role = 2
	large := sample.Net(mixed)
	large.Gates = append(large.Gates, make([]api.Gate, api.MaxGates)...)
	kind, self, count := sample.Net(mixed), sample.Net(mixed), sample.Net(mixed)
	kind.Gates[2].Kind = 7
	self.Gates[7].In = []int{7}
	count.Next = count.Next[:1]
	for i, n := range []api.Net{{}, late, unordered, index, goals, large, kind, self, count} {
		if network.Check(n) == api.OK {
			t.Errorf("%d is valid", i)
		}
		fails(t, n, nil, nil, 0, invalid, invalid, invalid, invalid)
		fails(t, n, []int{9}, []int{9}, 9, invalid, invalid, invalid, invalid)
	}
}

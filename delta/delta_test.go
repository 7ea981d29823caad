package delta_test

import (
	"fmt"
	"strings"
	"testing"

	"gameplayer/api"
	"gameplayer/delta"
	"gameplayer/network"
	"gameplayer/sample"
)

// mixed is a network with gates of all kinds. Gate 4 is a second one of base 0, and no gate is one of input 2.
const mixed = `0 base 1
1 input 1
2 false
3 base 0
4 base 0
5 true
6 input 0
7 and 0 3
8 or 1 6
9 not 8
10 and 3 5 9
11 or 2 7 10
12 not 11
13 and 6
14 or 0
15 and 0 2
16 or 4 5
role 0 x
role 1 chance
fact 0 a
fact 1 f(b)
move 0 0 2
move 1 0 f(g(c))
move 2 1 a
initial 1
next 0 12
next 1 8
legal 0 9
legal 1 1
legal 2 11
goal 0 0 12
goal 1 50 16
sees 0 f(g(c)) 13
terminal 10
`

// bits shows values as digits.
func bits(l []bool) string {
	var b strings.Builder
	for _, v := range l {
		b.WriteByte("01"[map[bool]int{true: 1}[v]])
	}
	return b.String()
}

// shown shows all that an engine says, after checking that Value and Values agree.
func shown(t *testing.T, x *delta.Engine) string {
	t.Helper()
	values := x.Values()
	for i, v := range values {
		if x.Value(i) != v {
			t.Errorf("gate %d is %v of %v", i, !v, values)
		}
	}
	state, inputs := x.State()
	return fmt.Sprint(bits(values), " ", state, inputs, " ", x.Work())
}

// engine makes an engine.
func engine(t *testing.T, n api.Net) *delta.Engine {
	t.Helper()
	x, e := delta.New(n)
	if x == nil || e != api.OK {
		t.Fatalf("%s: %d", network.Text(n), e)
	}
	return x
}

// set sets the state and the inputs, and checks how many gates change, and what the engine says then.
func set(t *testing.T, x *delta.Engine, state, inputs []int, changed int, want string) {
	t.Helper()
	if n, e := x.Set(state, inputs); n != changed || e != api.OK {
		t.Errorf("%v, %v: %d changed, %d, want %d", state, inputs, n, e, changed)
	}
	if got := shown(t, x); got != want {
		t.Errorf("%v, %v: %s, want %s", state, inputs, got, want)
	}
}

// The examples of the chapter
func TestExamples(t *testing.T) {
	x := engine(t, sample.Net(sample.Switch))
	if got := shown(t, x); got != "010 [] [] 0" {
		t.Error(got)
	}
	set(t, x, []int{0}, nil, 2, "100 [0] [] 2")
	set(t, x, []int{0}, []int{0}, 0, "100 [0] [0] 0")
	set(t, x, nil, []int{0}, 2, "010 [] [0] 2")
}

// P24.1 to P24.4: a course of changes of a network with gates of all kinds
func TestMixed(t *testing.T) {
	x := engine(t, sample.Net(mixed))
	if got := shown(t, x); got != "00000100010010001 [] [] 0" {
		t.Error(got)
	}
	// Gates 3 and 4 change, which 7, 10 and 16 read; of these 10 changes, which 11 reads; 12 reads that one.
	set(t, x, []int{0}, nil, 5, "00011100011100001 [0] [] 5")
	// Gate 1 changes, then 8 and 9, which 10 reads, and so on to 12.
	set(t, x, []int{0}, []int{1}, 6, "01011100100010001 [0] [1] 5")
	// Gate 6 takes the place of gate 1: gate 8 is evaluated once and stays true; 13 changes.
	set(t, x, []int{0}, []int{0}, 3, "00011110100011001 [0] [0] 2")
	// Gate 0 changes; 7, 14 and 15 read it, 11 reads 7, and 12 reads 11.
	set(t, x, []int{0, 1}, []int{0}, 5, "10011111100101101 [0 1] [0] 5")
	// No gate is one of input 2.
	set(t, x, []int{0, 1}, []int{0, 2}, 0, "10011111100101101 [0 1] [0 2] 0")
	// Gates 3, 4 and 6 change, and all that read them are evaluated: 7, 8, 10, 13 and 16; with 7 and 8 change 11 and 9, and with 11 changes 12.
	set(t, x, []int{1}, []int{2}, 9, "10000100010010101 [1] [2] 8")
	// All bases and inputs change: gates 0, 1, 3, 4 and 6, and with them 8, 9, 13 and 14; also 7, 10, 15 and 16 are evaluated.
	set(t, x, []int{0}, []int{0, 1}, 9, "01011110100011001 [0] [0 1] 8")
	set(t, x, nil, nil, 7, "00000100010010001 [] [] 6")
}

// P24.4: a gate is evaluated once even if all gates that it reads change, and not if none does.
func TestWorkOfWideGates(t *testing.T) {
	n := sample.Net("0 base 0\n1 base 1\n2 base 2\n3 and 0 1 2\n4 or 0 1 2\n5 not 3\n6 not 4\n7 and 5 6\n8 not 2\nrole 0 x\nfact 0 1\nfact 1 2\nfact 2 3\ninitial\nnext 0 0\nnext 1 0\nnext 2 0\nterminal 7\n")
	x := engine(t, n)
	if got := shown(t, x); got != "000001111 [] [] 0" {
		t.Error(got)
	}
	set(t, x, []int{0, 1, 2}, nil, 9, "111110000 [0 1 2] [] 6")
	set(t, x, []int{0, 1}, nil, 4, "110011001 [0 1] [] 5")
	set(t, x, []int{0}, nil, 1, "100011001 [0] [] 2")
	set(t, x, []int{1}, nil, 2, "010011001 [1] [] 2")
	set(t, x, []int{2}, nil, 3, "001011000 [2] [] 3")
	set(t, x, nil, nil, 5, "000001111 [] [] 5")
}

// P24.1: the gates have their values from the beginning, also those that depend on nothing.
func TestNew(t *testing.T) {
	for text, want := range map[string]string{
		"0 true\n1 not 0\n2 or 0 1\n3 and 0 1\n4 not 1\n5 and 0 4\nrole 0 x\ninitial\nterminal 0\n":                                                "101011 [] [] 0",
		"0 false\nrole 0 x\ninitial\nterminal 0\n":                                                                                                 "0 [] [] 0",
		"0 base 0\n1 input 0\n2 not 0\n3 not 1\n4 and 2 3\n5 or 0 1\nrole 0 x\nfact 0 s\nmove 0 0 a\ninitial 0\nnext 0 4\nlegal 0 2\nterminal 5\n": "001110 [] [] 0",
	} {
		x := engine(t, sample.Net(text))
		if got := shown(t, x); got != want {
			t.Errorf("%s: %s, want %s", text, got, want)
		}
		if n, e := x.Set(nil, nil); n != 0 || e != api.OK || shown(t, x) != want {
			t.Errorf("%s: %d changed, %d; %s, want %s", text, n, e, shown(t, x), want)
		}
	}
}

// P24.1: networks that are not valid
func TestNewNotValid(t *testing.T) {
	late, unordered, index := sample.Net(mixed), sample.Net(mixed), sample.Net(mixed)
	late.Terminal = 17
	unordered.Gates[7].In = []int{3, 0}
	index.Gates[0].Index = 2
	large := sample.Net(mixed)
	large.Gates = append(large.Gates, make([]api.Gate, api.MaxGates)...)
	kind, self, count := sample.Net(mixed), sample.Net(mixed), sample.Net(mixed)
	kind.Gates[2].Kind = 7
	self.Gates[7].In = []int{7}
	count.Next = count.Next[:1]
	for i, n := range []api.Net{{}, late, unordered, index, large, kind, self, count} {
		if x, e := delta.New(n); x != nil || e != api.ErrInvalid {
			t.Errorf("%d: %v, %d", i, x, e)
		}
	}
}

// P24.2: the errors, and their order; nothing changes with them.
func TestErrors(t *testing.T) {
	x := engine(t, sample.Net(mixed))
	set(t, x, []int{0}, []int{1}, 5, "01011100100010001 [0] [1] 5")
	before := shown(t, x)
	fails := func(state, inputs []int, want api.Errno) {
		t.Helper()
		if n, e := x.Set(state, inputs); n != 0 || e != want {
			t.Errorf("%v, %v: %d, %d, want %d", state, inputs, n, e, want)
		}
		if got := shown(t, x); got != before {
			t.Errorf("%v, %v: %s, want %s", state, inputs, got, before)
		}
	}
	for _, state := range [][]int{{2}, {-1}, {1 << 62}, {-1 << 63}, {0, 0}, {1, 0}, {0, 2}, {-1, 0}, {0, 1, 1}, {0, 1, 2}} {
		fails(state, nil, api.ErrState)
		fails(state, []int{0, 2}, api.ErrState)
		fails(state, []int{3}, api.ErrState)
	}
	for _, inputs := range [][]int{{3}, {-1}, {1 << 62}, {-1 << 63}, {0, 0}, {1, 0}, {0, 2, 1}, {0, 3}, {-1, 0}, {0, 1, 2, 2}, {0, 1, 2, 3}} {
		fails(nil, inputs, api.ErrMove)
		fails([]int{0, 1}, inputs, api.ErrMove)
	}
	set(t, x, []int{0}, []int{1}, 0, "01011100100010001 [0] [1] 0")
	set(t, x, []int{0}, []int{0}, 3, "00011110100011001 [0] [0] 2")
}

// P24.3: there are no other gates than those of the network.
func TestValueOfNoGate(t *testing.T) {
	x := engine(t, sample.Net("0 true\n1 true\nrole 0 x\ninitial\nterminal 0\n"))
	for gate, want := range map[int]bool{0: true, 1: true, 2: false, -1: false, 1 << 62: false, -1 << 63: false} {
		if x.Value(gate) != want {
			t.Errorf("gate %d is %v", gate, !want)
		}
	}
}

// P24.2: objects that New did not return, also a copy of one that it did
func TestOtherEngines(t *testing.T) {
	made := engine(t, sample.Net(mixed))
	set(t, made, []int{0}, nil, 5, "00011100011100001 [0] [] 5")
	copied, other := *made, *engine(t, sample.Net(mixed))
	for i, x := range []*delta.Engine{nil, {}, new(delta.Engine), &copied, &other} {
		for range 2 {
			if n, e := x.Set([]int{1}, []int{9}); n != 0 || e != api.ErrInvalid {
				t.Errorf("%d: Set %d, %d", i, n, e)
			}
			if n, e := x.Set(nil, nil); n != 0 || e != api.ErrInvalid {
				t.Errorf("%d: Set %d, %d", i, n, e)
			}
			if state, inputs := x.State(); len(x.Values())+len(state)+len(inputs)+x.Work() > 0 || x.Value(5) || x.Value(0) {
				t.Errorf("%d: %v, %v, %v, %d", i, x.Values(), state, inputs, x.Work())
			}
		}
	}
	if got := shown(t, made); got != "00011100011100001 [0] [] 5" {
		t.Error(got)
	}
}

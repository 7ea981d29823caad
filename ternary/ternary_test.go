package ternary_test

import (
	"fmt"
	"slices"
	"testing"

	"gameplayer/api"
	"gameplayer/network"
	"gameplayer/sample"
	"gameplayer/ternary"
)

// mixed is a network with gates of all kinds. Gate 4 is a second one of base 0, and no gate is one of input 2.
const mixed = `0 base 1
1 input 1
2 false
3 base 0
4 base 0
5 true
6 input 0
7 and 0 3
8 or 1 6
9 not 8
10 and 3 5 9
11 or 2 7 10
12 not 11
13 and 6
14 or 0
15 and 0 2
16 or 4 5
role 0 x
role 1 chance
fact 0 a
fact 1 f(b)
move 0 0 2
move 1 0 f(g(c))
move 2 1 a
initial 1
next 0 12
next 1 8
legal 0 9
legal 1 1
legal 2 11
goal 0 0 12
goal 1 50 16
sees 0 f(g(c)) 13
terminal 10
`

// odd are numbers that count as TernUnknown.
var odd = []int{2, 3, 7, -1, -2, 1<<63 - 1, -1 << 63, 1 << 62, 1 << 32}

// digits shows values as digits.
func digits(l []int) string {
	text := ""
	for _, v := range l {
		text += fmt.Sprint(v)
	}
	return text
}

// The examples of the chapter
func TestExamples(t *testing.T) {
	for _, c := range []struct{ got, want int }{{ternary.And(1, 2), 2}, {ternary.And(0, 2), 0}, {ternary.Or(1, 2), 1}, {ternary.Not(2), 2}, {ternary.And(1, 7), 2}} {
		if c.got != c.want {
			t.Errorf("%d, want %d", c.got, c.want)
		}
	}
	if values, e := ternary.Values(sample.Net(sample.Switch), []int{2}, []int{0}); digits(values) != "222" || e != api.OK {
		t.Error(values, e)
	}
	if !ternary.Refines([]int{1, 0}, []int{2, 0}) || ternary.Refines([]int{2, 0}, []int{1, 0}) {
		t.Error("Refines")
	}
}

// P25.1: all pairs of values
func TestConnectives(t *testing.T) {
	const f, w, u = api.TernFalse, api.TernTrue, api.TernUnknown
	for _, c := range []struct{ a, b, and, or int }{
		{f, f, f, f}, {f, w, f, w}, {f, u, f, u},
		{w, f, f, w}, {w, w, w, w}, {w, u, u, w},
		{u, f, f, u}, {u, w, u, w}, {u, u, u, u},
	} {
		if and, or := ternary.And(c.a, c.b), ternary.Or(c.a, c.b); and != c.and || or != c.or {
			t.Errorf("%d, %d: %d, %d, want %d, %d", c.a, c.b, and, or, c.and, c.or)
		}
	}
	for a, want := range map[int]int{f: w, w: f, u: u} {
		if got := ternary.Not(a); got != want {
			t.Errorf("%d: %d, want %d", a, got, want)
		}
	}
}

// P25.1: numbers that are no values count as TernUnknown.
func TestOtherNumbers(t *testing.T) {
	for _, n := range odd {
		if got := ternary.Not(n); got != 2 {
			t.Errorf("Not of %d: %d", n, got)
		}
		for _, other := range []int{0, 1, 2} {
			and, or := ternary.And(2, other), ternary.Or(2, other)
			if a, b := ternary.And(n, other), ternary.And(other, n); a != and || b != and {
				t.Errorf("And of %d and %d: %d, %d", n, other, a, b)
			}
			if a, b := ternary.Or(n, other), ternary.Or(other, n); a != or || b != or {
				t.Errorf("Or of %d and %d: %d, %d", n, other, a, b)
			}
		}
		for _, other := range odd {
			if a, b := ternary.And(n, other), ternary.Or(n, other); a != 2 || b != 2 {
				t.Errorf("%d, %d: %d, %d", n, other, a, b)
			}
		}
	}
}

// P25.2: what a network with gates of all kinds computes
func TestMixed(t *testing.T) {
	n := sample.Net(mixed)
	for _, c := range []struct {
		bases, inputs []int
		want          string
	}{
		{[]int{2, 2}, []int{2, 2, 2}, "22022122222222201"},
		{[]int{-1, 3}, []int{1 << 62, -1 << 63, 9}, "22022122222222201"},
		{[]int{0, 2}, []int{2, 2, 2}, "22000120220012201"},
		{[]int{2, 1}, []int{0, 1, 2}, "11022102100220101"},
		{[]int{1, 0}, []int{2, 0, 1}, "00011120222222001"},
		{[]int{1, 1}, []int{1, 1, 1}, "11011111100101101"},
		{[]int{0, 0}, []int{0, 0, 0}, "00000100010010001"},
	} {
		if got, e := ternary.Values(n, c.bases, c.inputs); digits(got) != c.want || e != api.OK {
			t.Errorf("%v, %v: %s, %d, want %s", c.bases, c.inputs, digits(got), e, c.want)
		}
	}
}

// P25.2: gates that read one, two or three others with all values
func TestReads(t *testing.T) {
	n := sample.Net("0 base 1\n1 base 0\n2 input 0\n3 and 0 1 2\n4 or 0 1 2\n5 and 2\n6 or 2\n7 and 0 2\n8 or 0 2\n9 not 1\nrole 0 x\nfact 0 a\nfact 1 b\nmove 0 0 a\ninitial\nnext 0 0\nnext 1 0\nlegal 0 0\nterminal 0\n")
	join := func(decides int, l ...int) int {
		switch {
		case slices.Contains(l, decides):
			return decides
		case slices.Contains(l, 2):
			return 2
		}
		return 1 - decides
	}
	for i := range 27 {
		a, b, c := i%3, i/3%3, i/9
		want := []int{b, a, c, join(0, a, b, c), join(1, a, b, c), c, c, join(0, b, c), join(1, b, c), []int{1, 0, 2}[a]}
		if got, e := ternary.Values(n, []int{a, b}, []int{c}); !slices.Equal(got, want) || e != api.OK {
			t.Errorf("%d, %d, %d: %v, %d, want %v", a, b, c, got, e, want)
		}
	}
}

// P25.3: lists of any numbers, in any order
func TestKnown(t *testing.T) {
	n := sample.Net("0 false\nrole 0 x\nfact 0 a\nfact 1 b\nfact 2 f(a)\nmove 0 0 a\ninitial 1\nnext 0 0\nnext 1 0\nnext 2 0\nlegal 0 0\nterminal 0\n")
	for _, c := range []struct {
		state []int
		want  string
	}{
		{nil, "000"}, {[]int{0}, "100"}, {[]int{1}, "010"}, {[]int{2}, "001"}, {[]int{0, 2}, "101"}, {[]int{0, 1, 2}, "111"},
		{[]int{2, 0}, "101"}, {[]int{1, 1}, "010"}, {[]int{2, 1, 2, 2}, "011"},
		{[]int{3}, "000"}, {[]int{-1}, "000"}, {[]int{-1, 0, 3, 2, 1<<63 - 1, -1 << 63}, "101"}, {[]int{1 << 32}, "000"},
	} {
		if got := ternary.Known(n, c.state); digits(got) != c.want {
			t.Errorf("%v: %v, want %s", c.state, got, c.want)
		}
	}
	if got := ternary.Known(sample.Net("0 false\nrole 0 x\ninitial\nterminal 0\n"), []int{0}); len(got) != 0 {
		t.Errorf("without bases: %v", got)
	}
}

// P25.4: lists of the same length
func TestRefines(t *testing.T) {
	for i := range 81 {
		a, b := []int{i % 3, i / 3 % 3}, []int{i / 9 % 3, i / 27}
		want := (b[0] == 2 || a[0] == b[0]) && (b[1] == 2 || a[1] == b[1])
		if ternary.Refines(a, b) != want {
			t.Errorf("%v, %v: %v", a, b, !want)
		}
	}
	for _, c := range []struct {
		a, b []int
		want bool
	}{
		{nil, nil, true}, {[]int{}, nil, true}, {nil, []int{2}, false}, {[]int{2}, nil, false}, {[]int{1}, []int{1, 2}, false}, {[]int{1, 2}, []int{1}, false}, {[]int{1, 0}, []int{1}, false},
		{[]int{0, 1, 0, 1}, []int{2, 2, 2, 1}, true}, {[]int{0, 1, 0, 1}, []int{2, 2, 2, 0}, false}, {[]int{0, 1, 0, 1}, []int{1, 2, 2, 2}, false},
	} {
		if ternary.Refines(c.a, c.b) != c.want {
			t.Errorf("%v, %v: %v", c.a, c.b, !c.want)
		}
	}
	for _, n := range odd {
		for _, m := range odd {
			if !ternary.Refines([]int{n}, []int{m}) {
				t.Errorf("%d does not refine %d", n, m)
			}
		}
		for _, value := range []int{0, 1} {
			if !ternary.Refines([]int{value}, []int{n}) || ternary.Refines([]int{n}, []int{value}) {
				t.Errorf("%d and %d", n, value)
			}
		}
	}
}

// fails checks that Values has the error ErrInvalid and no other result.
func fails(t *testing.T, n api.Net, bases, inputs []int) {
	t.Helper()
	if values, e := ternary.Values(n, bases, inputs); len(values) > 0 || e != api.ErrInvalid {
		t.Errorf("%v, %v: %v, %d", bases, inputs, values, e)
	}
}

// P25.2: wrong numbers of values
func TestCounts(t *testing.T) {
	n := sample.Net(mixed)
	for bases := range 5 {
		for inputs := range 6 {
			if bases != 2 || inputs != 3 {
				fails(t, n, make([]int, bases), make([]int, inputs))
			}
		}
	}
	none := sample.Net("0 false\nrole 0 x\ninitial\nterminal 0\n")
	fails(t, none, []int{0}, nil)
	fails(t, none, nil, []int{2})
	if values, e := ternary.Values(none, nil, nil); digits(values) != "0" || e != api.OK {
		t.Error(values, e)
	}
}

// P25.2, P25.3: networks that are not valid
func TestNotValid(t *testing.T) {
	late, unordered, index, goals := sample.Net(mixed), sample.Net(mixed), sample.Net(mixed), sample.Net(mixed)
	late.Terminal = 17
	unordered.Gates[7].In = []int{3, 0}
	index.Gates[0].Index = 2
	goals.Goals[0].Role = 2
	large := sample.Net(mixed)
	large.Gates = append(large.Gates, make([]api.Gate, api.MaxGates)...)
	kind, self, count := sample.Net(mixed), sample.Net(mixed), sample.Net(mixed)
	kind.Gates[2].Kind = 7
	self.Gates[7].In = []int{7}
	count.Next = count.Next[:1]
	for i, n := range []api.Net{{}, late, unordered, index, goals, large, kind, self, count} {
		if network.Check(n) == api.OK {
			t.Errorf("%d is valid", i)
		}
		fails(t, n, make([]int, len(n.Bases)), make([]int, len(n.Inputs)))
		fails(t, n, nil, []int{1})
		if known := ternary.Known(n, []int{0, 1}); len(known) > 0 {
			t.Errorf("%d: %v", i, known)
		}
	}
}

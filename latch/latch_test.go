package latch_test

import (
	"fmt"
	"slices"
	"strings"
	"testing"

	"gameplayer/api"
	"gameplayer/compile"
	"gameplayer/latch"
	"gameplayer/network"
	"gameplayer/sample"
	"gameplayer/term"
)

// pair is the network of the examples of the chapter, with the given Next gate of base 1.
func pair(gate int) api.Net {
	return sample.Net(fmt.Sprintf("0 base 0\n1 base 1\n2 input 0\n3 or 1 2\n4 and 0 1\nrole 0 x\nfact 0 a\nfact 1 b\nmove 0 0 a\ninitial 0\nnext 0 0\nnext 1 %d\nlegal 0 0\nterminal 0\n", gate))
}

// found shows what Always, Never, Latches and Traps return.
func found(t *testing.T, n api.Net) string {
	t.Helper()
	always, a := latch.Always(n)
	never, b := latch.Never(n)
	latches, c := latch.Latches(n)
	traps, d := latch.Traps(n)
	if a != api.OK || b != api.OK || c != api.OK || d != api.OK {
		t.Errorf("%s: %d, %d, %d, %d", network.Text(n), a, b, c, d)
	}
	return fmt.Sprint(always, never, latches, traps)
}

// closed is what Closed returns, for which there must be no error.
func closed(t *testing.T, n api.Net, always, never []int) bool {
	t.Helper()
	is, e := latch.Closed(n, always, never)
	if e != api.OK {
		t.Errorf("%v, %v: %d", always, never, e)
	}
	return is
}

// The examples of the chapter
func TestExamples(t *testing.T) {
	first, second := pair(3), pair(4)
	if got := found(t, first); got != "[0] [] [1] []" {
		t.Error(got)
	}
	if got := found(t, second); got != "[0] [1] [] []" {
		t.Error(got)
	}
	for _, n := range []api.Net{first, second} {
		if !closed(t, n, []int{0}, nil) {
			t.Error("base 0")
		}
	}
	if !closed(t, first, []int{1}, nil) || closed(t, second, []int{1}, nil) {
		t.Error("base 1")
	}
}

// several makes a network with the bases 0 to 5, which the gates 0 to 5 have, with the inputs 0 and 1, which gates 6 and 7 have, and with the gates false and true, 8 and 9.
func several(gates, initial string, next ...int) api.Net {
	text := "0 base 0\n1 base 1\n2 base 2\n3 base 3\n4 base 4\n5 base 5\n6 input 0\n7 input 1\n8 false\n9 true\n" + gates
	text += "role 0 x\nfact 0 a\nfact 1 b\nfact 2 c\nfact 3 d\nfact 4 e\nfact 5 f\nmove 0 0 a\nmove 1 0 b\ninitial " + initial + "\n"
	for base, gate := range next {
		text += fmt.Sprintf("next %d %d\n", base, gate)
	}
	return sample.Net(text + "legal 0 8\nlegal 1 8\nterminal 9\n")
}

// P26.1, P26.2: the sets of networks, each of which shows something else
func TestSets(t *testing.T) {
	for _, c := range []struct {
		name string
		net  api.Net
		want string
	}{
		{"each base stays as it is", several("", "1 3 4", 0, 1, 2, 3, 4, 5), "[1 3 4] [0 2 5] [] []"},
		{"no base holds initially", several("", "", 0, 1, 2, 3, 4, 5), "[] [0 1 2 3 4 5] [] []"},
		{"all bases hold initially", several("", "0 1 2 3 4 5", 0, 1, 2, 3, 4, 5), "[0 1 2 3 4 5] [] [] []"},
		{"constants, initially the same or not", several("", "0 1 4", 9, 8, 8, 9, 9, 8), "[0 4] [2 5] [3] [1]"},
		{"inputs, although they are never legal", several("10 and 2 6\n11 and 3 7\n12 or 4 6\n13 or 5 7\n", "0 2 4", 6, 7, 10, 11, 12, 13), "[4] [3] [5] [2]"},
		{"each base is followed by the next one, and the last one by an input", several("", "0 1 2 3 4 5", 1, 2, 3, 4, 5, 6), "[] [] [] []"},
		{"the same, where none holds", several("", "", 1, 2, 3, 4, 5, 6), "[] [] [] []"},
		{"each base is followed by the next one, and the last one stays", several("", "0 1 2 3 4 5", 1, 2, 3, 4, 5, 5), "[0 1 2 3 4 5] [] [] []"},
		{"the last one does not hold initially", several("", "0 1 2 3 4", 1, 2, 3, 4, 5, 5), "[] [5] [] [4]"},
		{"the first one is followed by itself and an input, and the others by those before them", several("10 and 0 6\n", "0 1 2", 10, 0, 1, 2, 3, 4), "[] [] [] [0]"},
		{"negations: two bases that exclude one another", several("10 not 0\n11 not 1\n12 and 0 11\n13 and 1 10\n", "0 2", 12, 13, 2, 3, 4, 5), "[0 2] [1 3 4 5] [] []"},
		{"the same, where both hold", several("10 not 0\n11 not 1\n12 and 0 11\n13 and 1 10\n", "0 1", 12, 13, 2, 3, 4, 5), "[] [2 3 4 5] [] [0 1]"},
		{"the same, where none does", several("10 not 0\n11 not 1\n12 and 0 11\n13 and 1 10\n", "", 12, 13, 2, 3, 4, 5), "[] [0 1 2 3 4 5] [] []"},
		{"bases that change", several("10 not 0\n11 not 1\n12 not 2\n", "0 4", 10, 12, 11, 0, 9, 8), "[4] [5] [] []"},
		{"a base or its negation, which is not known to be true", several("10 not 1\n11 or 1 10\n12 and 1 10\n", "0", 11, 6, 12, 8, 9, 9), "[] [3] [4 5] []"},
		{"the next of one is known because of the others", several("10 or 0 2\n11 and 3 4\n", "0", 0, 10, 6, 3, 7, 11), "[0] [3 5] [1] []"},
		{"with a base that always holds, one that never holds, and others", several("10 and 0 2\n11 not 1\n12 and 3 11\n13 or 6 12\n14 and 2 4\n15 or 7 10\n", "0 4", 0, 1, 15, 13, 14, 9), "[0] [1] [2 3 5] [4]"},
		{"the same with traps", several("10 or 1 2\n11 not 0\n12 or 3 11\n13 and 6 12\n14 or 2 4\n15 and 7 10\n", "0 2 3", 0, 1, 15, 13, 14, 8), "[0] [1 5] [4] [2 3]"},
		{"a latch that need not hold makes no other one a latch", several("10 or 0 6\n11 and 0 1\n12 or 7 11\n13 and 1 2\n14 or 6 13\n", "", 10, 12, 14, 3, 4, 5), "[] [3 4 5] [0] []"},
	} {
		if got := found(t, c.net); got != c.want {
			t.Errorf("%s: %s, want %s", c.name, got, c.want)
		}
	}
}

// P26.1, P26.2: bases that no gate has, and gates of the same base
func TestGatesOfBases(t *testing.T) {
	n := sample.Net("0 true\n1 false\n2 input 0\n3 base 3\n4 base 3\n5 not 4\n6 or 2 3 5\n7 and 2 3\nrole 0 x\nfact 0 a\nfact 1 b\nfact 2 c\nfact 3 d\nfact 4 e\nmove 0 0 a\ninitial 0 2\nnext 0 0\nnext 1 1\nnext 2 2\nnext 3 7\nnext 4 3\nlegal 0 2\nterminal 0\n")
	if got := found(t, n); got != "[0] [1 3 4] [] []" {
		t.Error(got)
	}
	n.Initial = []int{0, 2, 3}
	if got := found(t, n); got != "[0] [1] [] [3]" {
		t.Error(got)
	}
	n.Next[3] = 6
	if got := found(t, n); got != "[0 3] [1] [4] []" {
		t.Error(got)
	}
	n.Initial = []int{0, 2}
	if got := found(t, n); got != "[0] [1] [3] []" {
		t.Error(got)
	}
}

// P26.1, P26.2: in noughts and crosses marks stay, and no field becomes blank again.
func TestNoughts(t *testing.T) {
	n, e := compile.Net(sample.Rules(sample.Noughts))
	if e != api.OK || len(n.Bases) != 29 {
		t.Fatal(e, n.Bases)
	}
	var marks, blanks []int
	for i, f := range n.Bases {
		switch text := term.Text(f); {
		case strings.HasSuffix(text, ",b)"):
			blanks = append(blanks, i)
		case strings.HasPrefix(text, "cell"):
			marks = append(marks, i)
		}
	}
	if got, want := found(t, n), fmt.Sprint([]int{}, []int{}, marks, blanks); got != want {
		t.Errorf("%s, want %s", got, want)
	}
}

// P26.3: the network of the examples, and one in which gates of all kinds are left
func TestFreeze(t *testing.T) {
	frame := "role 0 x\nfact 0 a\nfact 1 b\nmove 0 0 a\ninitial 0\n"
	both := pair(4)
	both.Legal[0], both.Hidden = 2, true
	mixed := several("10 and 0 2\n11 not 1\n12 or 2 6\n13 and 11 12\n14 not 12\n15 or 1 14\n16 and 1 7\n17 and 2 3\n", "0 4", 0, 1, 12, 10, 9, 16)
	mixed.Terminal, mixed.Legal = 13, []int{15, 17}
	mixed.Goals = []api.Output{{Value: 10, Gate: 11}, {Value: 50, Gate: 16}}
	mixed.Sees = []api.Output{{Term: sample.Terms("f(a)")[0], Gate: 4}}
	for _, c := range []struct {
		net  api.Net
		want string
	}{
		{pair(3), "0 true\n1 base 1\n2 input 0\n3 or 1 2\n" + frame + "next 0 0\nnext 1 3\nlegal 0 0\nterminal 0\n"},
		{pair(4), "0 true\n1 false\n" + frame + "next 0 0\nnext 1 1\nlegal 0 0\nterminal 0\n"},
		{both, "0 true\n1 false\n2 input 0\n" + frame + "next 0 0\nnext 1 1\nlegal 0 2\nterminal 0\nhidden\n"},
		// Bases 0 and 4 always hold, 1 and 5 never: 10 is base 2, 11 true, 13 the same as 12, 15 as 14, and 16 false.
		{mixed, "0 true\n1 false\n2 base 2\n3 base 3\n4 input 0\n5 or 2 4\n6 not 5\n7 and 2 3\nrole 0 x\nfact 0 a\nfact 1 b\nfact 2 c\nfact 3 d\nfact 4 e\nfact 5 f\nmove 0 0 a\nmove 1 0 b\ninitial 0 4\n" +
			"next 0 0\nnext 1 1\nnext 2 5\nnext 3 2\nnext 4 0\nnext 5 1\nlegal 0 6\nlegal 1 7\ngoal 0 10 0\ngoal 0 50 1\nsees 0 f(a) 0\nterminal 5\n"},
	} {
		frozen, e := latch.Freeze(c.net)
		if got := network.Text(frozen); got != c.want || e != api.OK {
			t.Errorf("%s%d, want %s", got, e, c.want)
		}
	}
}

// P26.4: sets that are closed and others
func TestClosed(t *testing.T) {
	n := several("10 not 1\n11 and 0 10\n12 and 1 6\n13 or 2 6\n14 or 3 7\n15 and 3 4\n", "0", 11, 12, 13, 14, 15, 9)
	for _, c := range []struct {
		always, never []int
		want          bool
	}{
		{nil, nil, true},
		{[]int{0}, nil, false}, {[]int{0}, []int{1}, true}, {nil, []int{1}, true}, {nil, []int{0}, true}, {[]int{1}, nil, false}, {[]int{1}, []int{0}, false},
		{[]int{2}, nil, true}, {nil, []int{2}, false}, {[]int{2, 3}, nil, true}, {[]int{0, 2, 3}, []int{1}, true}, {[]int{0, 2, 3}, []int{1, 4}, true},
		{[]int{4}, nil, false}, {[]int{3, 4}, nil, true}, {nil, []int{4}, true}, {nil, []int{3, 4}, false}, {[]int{3}, []int{4}, true},
		{[]int{5}, nil, true}, {nil, []int{5}, false}, {[]int{0, 2, 3, 4, 5}, []int{1}, true}, {[]int{0, 1, 2, 3, 4, 5}, nil, false}, {nil, []int{0, 1, 2, 3, 4, 5}, false},
		{nil, []int{0, 1, 4}, true}, {[]int{2, 3, 5}, []int{0, 1, 4}, true}, {[]int{2, 3, 5}, []int{0, 4}, true},
	} {
		for _, initial := range [][]int{nil, {0}, {1, 4}, {0, 1, 2, 3, 4, 5}} {
			n.Initial = initial
			if closed(t, n, c.always, c.never) != c.want {
				t.Errorf("%v, %v with %v initially: %v", c.always, c.never, initial, !c.want)
			}
		}
	}
}

// P26.4: lists that are no sets of bases, or that have a base in common
func TestErrors(t *testing.T) {
	n := pair(3)
	wrong := [][]int{{2}, {-1}, {1 << 62}, {-1 << 63}, {1 << 32}, {0, 0}, {1, 0}, {0, 2}, {-1, 0}, {0, 1, 1}, {0, 1, 2}, {1, 0, 1}}
	fails := func(always, never []int) {
		if is, e := latch.Closed(n, always, never); is || e != api.ErrState {
			t.Errorf("%v, %v: %v, %d", always, never, is, e)
		}
	}
	for _, l := range wrong {
		for _, other := range [][]int{nil, {0}, {1}, {0, 1}} {
			fails(l, other)
			fails(other, l)
		}
		fails(l, l)
	}
	for _, c := range [][2][]int{{{0}, {0}}, {{1}, {1}}, {{0, 1}, {1}}, {{0, 1}, {0}}, {{1}, {0, 1}}, {{0, 1}, {0, 1}}} {
		fails(c[0], c[1])
	}
}

// P26.1 to P26.4: networks that are not valid
func TestNotValid(t *testing.T) {
	late, unordered, index, legal, next := pair(3), pair(3), pair(3), pair(3), pair(3)
	late.Terminal = 5
	unordered.Gates[3].In = []int{2, 1}
	index.Gates[0].Index = 2
	legal.Legal = nil
	next.Next[1] = -1
	large := pair(3)
	large.Gates = append(large.Gates, make([]api.Gate, api.MaxGates)...)
	initial, kind, self, count := pair(3), pair(3), pair(3), pair(3)
	initial.Initial = []int{2}
	kind.Gates[2].Kind = 7
	self.Gates[3].In = []int{3}
	count.Next = count.Next[:1]
	for i, n := range []api.Net{{}, late, unordered, index, legal, next, large, initial, kind, self, count} {
		if network.Check(n) == api.OK {
			t.Errorf("%d is valid", i)
		}
		for k, f := range []func(api.Net) ([]int, api.Errno){latch.Always, latch.Never, latch.Latches, latch.Traps} {
			if l, e := f(n); len(l) > 0 || e != api.ErrInvalid {
				t.Errorf("%d, %d: %v, %d", i, k, l, e)
			}
		}
		if frozen, e := latch.Freeze(n); !zero(frozen) || e != api.ErrInvalid {
			t.Errorf("%d: %v, %d", i, frozen, e)
		}
		for _, c := range [][2][]int{{nil, nil}, {{0}, nil}, {nil, {1}}, {{0}, {0}}, {{9}, nil}, {nil, {1, 0}}} {
			if is, e := latch.Closed(n, c[0], c[1]); is || e != api.ErrInvalid {
				t.Errorf("%d: %v: %v, %d", i, c, is, e)
			}
		}
	}
}

// zero reports whether a network is the zero Net.
func zero(n api.Net) bool {
	lists := slices.Concat(n.Initial, n.Next, n.Legal)
	return len(n.Gates)+len(n.Roles)+len(n.Bases)+len(n.Inputs)+len(lists)+len(n.Goals)+len(n.Sees)+n.Terminal == 0 && !n.Hidden
}

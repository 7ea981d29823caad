package network_test

import (
	"fmt"
	"slices"
	"strings"
	"testing"

	"gameplayer/api"
	"gameplayer/network"
	"gameplayer/sample"
)

// mixed is a network with gates of all kinds and all sorts of lines. Gate 3 is read by no gate and is no root.
const mixed = `0 false
1 true
2 base 0
3 base 1
4 input 0
5 input 2
6 not 2
7 and 1 4 6
8 or 0 7
9 not 8
10 and 9
11 base 1
role 0 x
role 1 chance
fact 0 10
fact 1 f(a,g(2))
move 0 0 2
move 1 0 h(b)
move 2 1 a
initial 1
next 0 8
next 1 2
legal 0 1
legal 1 11
legal 2 6
goal 0 0 0
goal 0 100 7
goal 1 50 1
sees 0 b 4
sees 0 f(a,10) 5
sees 1 2 11
terminal 10
hidden
`

// least is a network with as little as there may be.
const least = "0 false\nrole 0 x\ninitial\nterminal 0\n"

// The examples of the chapter
func TestExamples(t *testing.T) {
	n := sample.Net(sample.Switch)
	if got := fmt.Sprint(network.Levels(n), network.Cone(n, 1), network.Affected(n, []int{1}), network.Readers(n)[0], network.Roots(n)); got != "[0 1 2] [0 1] [1 2] [1 2] [0 1 2]" {
		t.Error(got)
	}
	if got := network.Text(n); got != "0 base 0\n1 not 0\n2 and 0 1\nrole 0 x\nfact 0 s\nmove 0 0 a\ninitial 0\nnext 0 2\nlegal 0 0\nterminal 1\n" {
		t.Error(got)
	}
	n.Gates[2].In = []int{1, 0}
	if e := network.Check(n); e != api.ErrOrder {
		t.Error(e)
	}
	n = sample.Net(sample.Switch)
	n.Gates[0].Index = 1
	if e := network.Check(n); e != api.ErrRange {
		t.Error(e)
	}
}

// P20.2
func TestLevels(t *testing.T) {
	for text, want := range map[string][]int{
		mixed: {0, 0, 0, 0, 0, 0, 1, 2, 3, 4, 5, 0},
		least: {0},
		"0 true\n1 not 0\n2 not 1\n3 and 0 2\n4 and 0\n5 or 0 1 4\n6 or 4\nrole 0 x\ninitial\nterminal 0\n": {0, 1, 2, 3, 1, 2, 2},
	} {
		if got := network.Levels(sample.Net(text)); !slices.Equal(got, want) {
			t.Errorf("%s: Levels %v, want %v", text, got, want)
		}
	}
}

// P20.3
func TestConeAndAffected(t *testing.T) {
	n := sample.Net(mixed)
	for gate, want := range map[int][]int{
		0: {0}, 1: {1}, 2: {2}, 5: {5}, 6: {2, 6}, 7: {1, 2, 4, 6, 7}, 8: {0, 1, 2, 4, 6, 7, 8}, 10: {0, 1, 2, 4, 6, 7, 8, 9, 10}, 11: {11}, 12: nil, -1: nil, 1 << 62: nil, -1 << 63: nil,
	} {
		if got := network.Cone(n, gate); !slices.Equal(got, want) {
			t.Errorf("Cone of %d is %v, want %v", gate, got, want)
		}
	}
	for i, c := range []struct{ gates, want []int }{
		{nil, nil}, {[]int{0}, []int{0, 8, 9, 10}}, {[]int{2}, []int{2, 6, 7, 8, 9, 10}}, {[]int{3}, []int{3}}, {[]int{10}, []int{10}}, {[]int{11, 3, 5}, []int{3, 5, 11}}, {[]int{9, 3}, []int{3, 9, 10}},
		{[]int{9, 3, 9, 3, 9}, []int{3, 9, 10}}, {[]int{12}, nil}, {[]int{-1}, nil}, {[]int{-1, 1 << 62, 10, -1 << 63, 12}, []int{10}}, {[]int{6, 7, 8, 9}, []int{6, 7, 8, 9, 10}}, {[]int{0, 1, 2, 3, 4, 5, 11}, []int{0, 1, 2, 3, 4, 5, 6, 7, 8, 9, 10, 11}},
	} {
		if got := network.Affected(n, c.gates); !slices.Equal(got, c.want) {
			t.Errorf("%d: Affected of %v is %v, want %v", i, c.gates, got, c.want)
		}
	}
}

// P20.3
func TestReaders(t *testing.T) {
	if got := fmt.Sprint(network.Readers(sample.Net(mixed))); got != "[[8] [7] [6] [] [7] [] [7] [8] [9] [10] [] []]" {
		t.Error(got)
	}
	if got := fmt.Sprint(network.Readers(sample.Net(least))); got != "[[]]" {
		t.Error(got)
	}
}

// P20.4
func TestCountsAndRoots(t *testing.T) {
	for i, c := range []struct {
		text          string
		counts, roots []int
	}{
		{mixed, []int{1, 1, 3, 2, 2, 1, 2}, []int{0, 1, 2, 4, 5, 6, 7, 8, 10, 11}},
		{least, []int{1, 0, 0, 0, 0, 0, 0}, []int{0}},
		{"0 true\n1 true\n2 or 0 1\n3 false\nrole 0 x\nfact 0 s\nmove 0 0 a\ninitial\nnext 0 1\nlegal 0 1\nterminal 1\n", []int{1, 2, 0, 0, 0, 1, 0}, []int{1}},
		{"0 true\n1 true\n2 true\n3 true\n4 true\n5 true\nrole 0 x\nfact 0 s\nmove 0 0 a\ninitial\nnext 0 5\nlegal 0 4\ngoal 0 1 2\nsees 0 a 1\nterminal 0\n", []int{0, 6, 0, 0, 0, 0, 0}, []int{0, 1, 2, 4, 5}},
	} {
		n := sample.Net(c.text)
		if counts, roots := network.Counts(n), network.Roots(n); !slices.Equal(counts, c.counts) || !slices.Equal(roots, c.roots) {
			t.Errorf("%d: %v, %v, want %v, %v", i, counts, roots, c.counts, c.roots)
		}
	}
}

// P20.5
func TestText(t *testing.T) {
	for _, text := range []string{mixed, least, sample.Switch, strings.Replace(mixed, "hidden\n", "", 1), strings.Replace(mixed, "initial 1", "initial 0 1", 1), strings.Replace(mixed, "initial 1", "initial", 1)} {
		if got := network.Text(sample.Net(text)); got != text {
			t.Errorf("%s, want %s", got, text)
		}
	}
}

// P20.1: all other functions return empty results for a network that is not valid.
func TestNotValid(t *testing.T) {
	late := sample.Net(mixed)
	late.Terminal = 12
	unordered := sample.Net(mixed)
	unordered.Gates[8].In = []int{7, 8}
	kind := sample.Net(mixed)
	kind.Gates[11].Kind = 7
	for i, n := range []api.Net{{}, late, unordered, kind, {Gates: make([]api.Gate, api.MaxGates+1), Roles: []api.Term{{Name: "x"}}}} {
		if network.Check(n) == api.OK {
			t.Errorf("%d is valid", i)
		}
		if l := slices.Concat(network.Levels(n), network.Cone(n, 0), network.Affected(n, []int{0}), network.Counts(n), network.Roots(n)); len(l) > 0 || len(network.Readers(n)) > 0 || network.Text(n) != "" {
			t.Errorf("%d: %v, %v, %s", i, l, network.Readers(n), network.Text(n))
		}
	}
}

package factor_test

import (
	"fmt"
	"slices"
	"strings"
	"testing"

	"gameplayer/api"
	"gameplayer/compile"
	"gameplayer/evaluate"
	"gameplayer/factor"
	"gameplayer/network"
	"gameplayer/sample"
	"gameplayer/simplify"
)

// mixed is a network with six bases and six inputs. Base 5 has no gate, and neither have the inputs 4 and 5; gate 9 is in many cones. All bases are read by the gates 16 and 17, which Goals, Sees and Terminal refer to.
const mixed = `0 base 0
1 base 1
2 base 2
3 base 3
4 base 4
5 input 0
6 input 1
7 input 2
8 input 3
9 true
10 and 0 5
11 not 10
12 or 1 11
13 and 2 9
14 or 3 9
15 and 6 7
16 and 0 1 2 3 4
17 or 5 6 7 8 16
18 and 3 4
role 0 x
role 1 chance
fact 0 a
fact 1 b
fact 2 c
fact 3 d
fact 4 e
fact 5 f(g(a))
move 0 0 a
move 1 0 b
move 2 0 f(b)
move 3 1 a
move 4 1 b
move 5 1 f(g(b))
initial 0 3 4
next 0 12
next 1 1
next 2 13
next 3 14
next 4 15
next 5 9
legal 0 9
legal 1 3
legal 2 8
legal 3 11
legal 4 7
legal 5 9
goal 0 50 16
sees 1 f(g(a)) 17
terminal 16
hidden
`

// parts returns the parts of a network, each with its inputs, and then the idle inputs.
func parts(t *testing.T, n api.Net) string {
	t.Helper()
	l, e := factor.Parts(n)
	if e != api.OK {
		t.Fatalf("%s: %d", network.Text(n), e)
	}
	var text strings.Builder
	for _, part := range l {
		inputs, e := factor.Inputs(n, part)
		if e != api.OK {
			t.Fatalf("%s, %v: %d", network.Text(n), part, e)
		}
		fmt.Fprintf(&text, "%v%v ", part, inputs)
	}
	idle, e := factor.Idle(n)
	if e != api.OK {
		t.Fatalf("%s: %d", network.Text(n), e)
	}
	return text.String() + fmt.Sprint(idle)
}

// P27.1, P27.2: which gates link bases and inputs, and which do not
func TestMixed(t *testing.T) {
	n := sample.Net(mixed)
	// Base 0 depends on itself, on base 1 and on input 0; base 4 on the inputs 1 and 2. Input 1 is legal by base 3, input 3 by base 0 and input 0; the inputs 2 and 4 by inputs alone.
	if got := fmt.Sprint(factor.Links(n)); got != "[[0 1] [0 6] [0 9] [3 7] [4 7] [4 8]]" {
		t.Error(got)
	}
	if got := parts(t, n); got != "[0 1][0 3] [2][] [3 4][1 2] [5][] [4 5]" {
		t.Error(got)
	}
	n.Next[2] = 18 // the bases 3 and 4
	if got := fmt.Sprint(factor.Links(n)); got != "[[0 1] [0 6] [0 9] [2 3] [2 4] [3 7] [4 7] [4 8]]" {
		t.Error(got)
	}
	if got := parts(t, n); got != "[0 1][0 3] [2 3 4][1 2] [5][] [4 5]" {
		t.Error(got)
	}
	n.Next[5], n.Legal[5] = 7, 11
	if got := fmt.Sprint(factor.Links(n)); got != "[[0 1] [0 6] [0 9] [0 11] [2 3] [2 4] [3 7] [4 7] [4 8] [5 8]]" {
		t.Error(got)
	}
	if got := parts(t, n); got != "[0 1][0 3 5] [2 3 4 5][1 2] [4]" {
		t.Error(got)
	}
}

// pair is a network of two bases and two inputs. The gates 0 to 3 are these, and gate 4 is true.
func pair(gates string, next0, next1, legal0, legal1 int) api.Net {
	return sample.Net(fmt.Sprintf("0 base 0\n1 base 1\n2 input 0\n3 input 1\n4 true\n%srole 0 x\nfact 0 a\nfact 1 b\nmove 0 0 a\nmove 1 0 b\ninitial 0\nnext 0 %d\nnext 1 %d\nlegal 0 %d\nlegal 1 %d\nterminal 4\n", gates, next0, next1, legal0, legal1))
}

// P27.1, P27.2: what links two bases and two inputs, and in which direction, does not matter.
func TestPairs(t *testing.T) {
	for _, c := range []struct {
		net          api.Net
		links, parts string
	}{
		{pair("", 4, 4, 4, 4), "[]", "[0][] [1][] [0 1]"},
		{pair("", 0, 1, 4, 4), "[]", "[0][] [1][] [0 1]"},
		{pair("", 1, 1, 4, 4), "[[0 1]]", "[0 1][] [0 1]"},
		{pair("", 0, 0, 4, 4), "[[0 1]]", "[0 1][] [0 1]"},
		{pair("", 1, 0, 4, 4), "[[0 1]]", "[0 1][] [0 1]"},
		{pair("", 2, 3, 4, 4), "[[0 2] [1 3]]", "[0][0] [1][1] []"},
		{pair("", 3, 2, 4, 4), "[[0 3] [1 2]]", "[0][1] [1][0] []"},
		{pair("", 3, 3, 4, 4), "[[0 3] [1 3]]", "[0 1][1] [0]"},
		{pair("", 4, 4, 0, 1), "[[0 2] [1 3]]", "[0][0] [1][1] []"},
		{pair("", 4, 4, 1, 1), "[[1 2] [1 3]]", "[0][] [1][0 1] []"},
		{pair("", 4, 4, 2, 3), "[]", "[0][] [1][] [0 1]"},
		{pair("", 4, 4, 3, 2), "[]", "[0][] [1][] [0 1]"},
		{pair("", 2, 4, 1, 4), "[[0 2] [1 2]]", "[0 1][0] [1]"},
		{pair("", 2, 4, 0, 2), "[[0 2]]", "[0][0] [1][] [1]"},
		{pair("5 and 0 1\n", 4, 4, 4, 5), "[[0 3] [1 3]]", "[0 1][1] [0]"},
		{pair("5 and 2 3\n", 4, 5, 4, 4), "[[1 2] [1 3]]", "[0][] [1][0 1] []"},
		{pair("5 and 2 3\n", 0, 4, 5, 5), "[]", "[0][] [1][] [0 1]"},
		{pair("5 or 1 2\n6 not 5\n7 and 3 6\n8 not 7\n", 4, 4, 4, 8), "[[1 3]]", "[0][] [1][1] [0]"},
		{pair("5 or 1 2\n6 not 5\n7 and 3 6\n8 not 7\n", 8, 4, 4, 4), "[[0 1] [0 2] [0 3]]", "[0 1][0 1] []"},
		{pair("5 not 4\n6 and 1 5\n", 6, 4, 4, 4), "[[0 1]]", "[0 1][] [0 1]"},                 // although gate 6 is always false
		{pair("5 base 1\n6 input 1\n7 or 5 6\n", 7, 4, 4, 4), "[[0 1] [0 3]]", "[0 1][1] [0]"}, // second gates of a base and of an input
		{pair("5 base 0\n6 and 0 5\n", 6, 4, 6, 4), "[[0 2]]", "[0][0] [1][] [1]"},
		{pair("5 and 0 1\n6 or 0 1 5\n", 6, 6, 5, 6), "[[0 1] [0 2] [0 3] [1 2] [1 3]]", "[0 1][0 1] []"},
	} {
		if got := fmt.Sprint(factor.Links(c.net)); got != c.links {
			t.Errorf("%sLinks %s, want %s", network.Text(c.net), got, c.links)
		}
		if got := parts(t, c.net); got != c.parts {
			t.Errorf("%s%s, want %s", network.Text(c.net), got, c.parts)
		}
	}
}

// P27.1, P27.2: networks without bases or without inputs
func TestFewNodes(t *testing.T) {
	for text, want := range map[string]string{
		"0 true\nrole 0 x\ninitial\nterminal 0\n":                                                               "[] []",
		"0 input 0\nrole 0 x\nmove 0 0 a\nmove 1 0 b\ninitial\nlegal 0 0\nlegal 1 0\nterminal 0\n":              "[] [0 1]",
		"0 base 1\nrole 0 x\nfact 0 a\nfact 1 b\ninitial\nnext 0 0\nnext 1 0\nterminal 0\n":                     "[[0 1]] [0 1][] []",
		"0 base 1\nrole 0 x\nfact 0 a\nfact 1 b\nfact 2 c\ninitial\nnext 0 0\nnext 1 0\nnext 2 0\nterminal 0\n": "[[0 1] [1 2]] [0 1 2][] []",
	} {
		n := sample.Net(text)
		if got := fmt.Sprint(factor.Links(n)) + " " + parts(t, n); got != want {
			t.Errorf("%s: %s, want %s", text, got, want)
		}
	}
}

// The first example of the chapter, compiled and simplified
func TestLamps(t *testing.T) {
	n, e := compile.Net(sample.Rules("role(x). legal(x,press(p)). legal(x,press(q)). next(lit(A)) if does(x,press(A)) and not true(lit(A)). next(lit(A)) if true(lit(A)) and not does(x,press(A))."))
	if e != api.OK {
		t.Fatal(e)
	}
	for _, n := range []api.Net{n, simplify.Net(n)} {
		if got := fmt.Sprint(factor.Links(n)) + " " + parts(t, n); got != "[[0 2] [1 3]] [0][0] [1][1] []" {
			t.Error(got)
		}
		p, e := factor.Split(n, []int{1})
		if e != api.OK || len(p.Bases) != 1 || len(p.Inputs) != 1 {
			t.Fatal(p, e)
		}
		for _, c := range []struct{ state, inputs, next []int }{{nil, nil, nil}, {nil, []int{0}, []int{0}}, {[]int{0}, nil, []int{0}}, {[]int{0}, []int{0}, nil}} {
			if next, e := evaluate.Next(p, c.state, c.inputs); !slices.Equal(next, c.next) || e != api.OK {
				t.Error(c, next, e)
			}
		}
	}
}

// P27.2, P27.3: networks that are not valid, and what is no part
func TestErrors(t *testing.T) {
	late, unordered, kind, large := sample.Net(mixed), sample.Net(mixed), sample.Net(mixed), sample.Net(mixed)
	late.Terminal = 19
	unordered.Gates[10].In = []int{5, 0}
	kind.Gates[2].Kind = 7
	large.Gates = append(large.Gates, make([]api.Gate, api.MaxGates)...)
	count := sample.Net(mixed)
	count.Legal = count.Legal[:5]
	for i, n := range []api.Net{{}, late, unordered, kind, large, count} {
		if l := factor.Links(n); len(l) > 0 {
			t.Errorf("%d: Links %v", i, l)
		}
		if l, e := factor.Parts(n); len(l) > 0 || e != api.ErrInvalid {
			t.Errorf("%d: Parts %v, %d", i, l, e)
		}
		if l, e := factor.Idle(n); len(l) > 0 || e != api.ErrInvalid {
			t.Errorf("%d: Idle %v, %d", i, l, e)
		}
		for _, part := range [][]int{{0, 1}, {2}, nil} {
			noPart(t, n, part)
		}
	}
	for _, part := range [][]int{nil, {}, {0}, {1}, {0, 1, 2}, {1, 0}, {0, 0, 1}, {0, 1, 1}, {3}, {4}, {2, 3, 4}, {2, 5}, {0, 1, 2, 3, 4, 5}, {6}, {-1}, {0, 1, 6}, {1 << 62}, {-1 << 63}, {5, 6}} {
		noPart(t, sample.Net(mixed), part)
	}
	noPart(t, sample.Net("0 true\nrole 0 x\nmove 0 0 a\ninitial\nlegal 0 0\nterminal 0\n"), nil)
}

// noPart checks that something is no part of a network.
func noPart(t *testing.T, n api.Net, part []int) {
	t.Helper()
	if l, e := factor.Inputs(n, part); len(l) > 0 || e != api.ErrInvalid {
		t.Errorf("Inputs of %v: %v, %d", part, l, e)
	}
	if p, e := factor.Split(n, part); sample.ShowNet(p) != sample.ShowNet(api.Net{}) || e != api.ErrInvalid {
		t.Errorf("Split of %v: %v, %d", part, p, e)
	}
}

// P27.3: the lists of the networks of all parts, and what they compute in all states for all sets of inputs
func TestSplit(t *testing.T) {
	n := sample.Net(mixed)
	roles := "role 0 x\nrole 1 chance\n"
	for _, c := range []struct {
		part  []int
		lists string
	}{
		{[]int{0, 1}, roles + "fact 0 a\nfact 1 b\nmove 0 0 a\nmove 1 1 a\ninitial 0\n"},
		{[]int{2}, roles + "fact 0 c\ninitial\n"},
		{[]int{3, 4}, roles + "fact 0 d\nfact 1 e\nmove 0 0 b\nmove 1 0 f(b)\ninitial 0 1\n"},
		{[]int{5}, roles + "fact 0 f(g(a))\ninitial\n"},
	} {
		w := wholeOf(t, n, c.part)
		for bits := range 1 << 12 {
			w.compare(t, chosen(bits, 6), chosen(bits>>6, 6))
		}
		p := w.split
		p.Gates, p.Next, p.Legal, p.Terminal = make([]api.Gate, 1), make([]int, len(p.Next)), make([]int, len(p.Legal)), 0
		want := "0 false\n" + c.lists
		for i := range p.Next {
			want += fmt.Sprintf("next %d 0\n", i)
		}
		for i := range p.Legal {
			want += fmt.Sprintf("legal %d 0\n", i)
		}
		if got := network.Text(p); got != want+"terminal 0\n" {
			t.Errorf("%v: %s, want %s", c.part, got, want)
		}
	}
}

// P27.3: a network with a single gate, which cannot have fewer, has one gate more.
func TestOneGateMore(t *testing.T) {
	n := sample.Net("0 base 0\nrole 0 x\nfact 0 a\ninitial 0\nnext 0 0\nterminal 0\n")
	if p := wholeOf(t, n, []int{0}).split; len(p.Gates) != 2 {
		t.Error(network.Text(p))
	}
	n = sample.Net("0 false\n1 true\nrole 0 x\nfact 0 a\nmove 0 0 a\ninitial 0\nnext 0 0\nlegal 0 1\nterminal 1\n")
	if p := wholeOf(t, n, []int{0}).split; len(p.Gates) > 3 || p.Gates[p.Terminal].Kind != api.GateFalse {
		t.Error(network.Text(p))
	}
}

// full is a network with as many gates as there may be, all of which the second base or the first one needs. Gate 0 is base 0, gate 1 base 1 or input 0.
func full(second string) api.Net {
	n := sample.Net("0 base 0\n1 " + second + "\nrole 0 x\nfact 0 a\nfact 1 b\nmove 0 0 a\nmove 1 0 b\ninitial 1\nnext 0 1\nnext 1 16383\nlegal 0 0\nlegal 1 0\nterminal 16383\n")
	for i := 2; i < api.MaxGates; i++ {
		n.Gates = append(n.Gates, api.Gate{Kind: api.GateAnd + i%2, In: []int{i - 2, i - 1}})
	}
	return n
}

// P27.3: where a network has as many gates as there may be, there is room for the gate that is never true if the part does not need all others, or one of these is true for no state.
func TestFullNetworks(t *testing.T) {
	n := full("input 0")
	p := wholeOf(t, n, []int{0, 1}).split
	if len(p.Gates) > api.MaxGates {
		t.Error(len(p.Gates))
	}
	n = full("base 1")
	n.Gates[100] = api.Gate{Kind: api.GateFalse}
	wholeOf(t, n, []int{0, 1})
	n = full("base 1")
	n.Next[1] = 16382 // so that the last gate is not needed
	wholeOf(t, n, []int{0, 1})
	n = full("base 1")
	n.Gates[0], n.Gates[2], n.Legal = api.Gate{Kind: api.GateTrue}, api.Gate{Kind: api.GateBase}, []int{1, 1} // so that the first gate is not needed
	wholeOf(t, n, []int{0, 1})
	n = full("base 1")
	n.Gates[0], n.Gates[2], n.Next[0], n.Legal = api.Gate{Kind: api.GateFalse}, api.Gate{Kind: api.GateBase}, 0, []int{1, 1} // so that a gate that is never true is needed anyway
	wholeOf(t, n, []int{0, 1})
	n = full("base 1")
	n.Next[0], n.Next[1], n.Terminal = 0, 1, 16383 // two parts, each of which needs one gate
	if p := wholeOf(t, n, []int{1}).split; len(p.Gates) != 2 {
		t.Error(len(p.Gates))
	}
}

// P27.3: no valid network has one more gate than there may be; this one needs one for each base, one for each pair of bases, and one that is never true.
func TestNoRoom(t *testing.T) {
	const count = api.MaxGates / 2
	n := api.Net{Roles: sample.Terms("x")}
	for i := range count {
		n.Bases = append(n.Bases, api.Term{Name: fmt.Sprint(i)})
		n.Gates = append(n.Gates, api.Gate{Kind: api.GateBase, Index: i})
	}
	for i := range count {
		n.Next = append(n.Next, len(n.Gates))
		n.Gates = append(n.Gates, api.Gate{Kind: api.GateAnd, In: slices.Sorted(slices.Values([]int{i, (i + 1) % count}))})
	}
	l, e := factor.Parts(n)
	if e != api.OK || len(l) != 1 || len(l[0]) != count {
		t.Fatal(len(l), e)
	}
	if p, e := factor.Split(n, l[0]); sample.ShowNet(p) != sample.ShowNet(api.Net{}) || e != api.ErrTooLarge {
		t.Error(len(p.Gates), e)
	}
	n.Gates[count] = n.Gates[count+1] // one pair less
	if p, e := factor.Split(n, l[0]); len(p.Gates) != api.MaxGates || network.Check(p) != api.OK || e != api.OK {
		t.Error(len(p.Gates), e)
	}
}

// P27.4: elements of a part that are in a state
func TestProject(t *testing.T) {
	for _, c := range []struct{ part, state, want []int }{
		{[]int{1, 4, 6}, []int{0, 4, 6}, []int{1, 2}}, {[]int{1, 4, 6}, nil, nil}, {nil, []int{0, 4}, nil}, {nil, nil, nil}, {[]int{1, 4, 6}, []int{1, 4, 6}, []int{0, 1, 2}},
		{[]int{1, 4, 6}, []int{0, 2, 3, 5, 7}, nil}, {[]int{3}, []int{0, 1, 2, 3, 4}, []int{0}}, {[]int{0, 1, 2, 3, 4}, []int{3}, []int{3}}, {[]int{0, 1 << 62, 1<<63 - 1}, []int{1, 1 << 62, 1<<63 - 1}, []int{1, 2}}, {[]int{0, 2, 4, 6, 8}, []int{0, 1, 2, 8, 9}, []int{0, 1, 4}},
	} {
		if got := factor.Project(c.part, c.state); !slices.Equal(got, c.want) {
			t.Errorf("Project(%v, %v) is %v, want %v", c.part, c.state, got, c.want)
		}
	}
}

// P27.4: states of parts, joined
func TestJoin(t *testing.T) {
	const most = 1<<63 - 1
	for _, c := range []struct{ parts, states [][]int }{
		{nil, nil}, {[][]int{{}}, [][]int{{}}}, {[][]int{nil, {}}, [][]int{{}, nil}},
	} {
		if got, e := factor.Join(c.parts, c.states); len(got) > 0 || e != api.OK {
			t.Error(c, got, e)
		}
	}
	for _, c := range []struct {
		parts, states [][]int
		want          []int
	}{
		{[][]int{{1, 4, 6}, {0}}, [][]int{{1, 2}, {0}}, []int{0, 4, 6}},
		{[][]int{{1, 4, 6}, {0}}, [][]int{{0, 1, 2}, nil}, []int{1, 4, 6}},
		{[][]int{{0}, {1, 4, 6}}, [][]int{{0}, {0, 2}}, []int{0, 1, 6}},
		{[][]int{{5, 9}, {}, {0, 7, 8}}, [][]int{{0, 1}, {}, {1}}, []int{5, 7, 9}},
		{[][]int{{2}, {1}, {0}}, [][]int{{0}, {0}, {0}}, []int{0, 1, 2}},
		{[][]int{{most}, {0, most - 1}}, [][]int{{0}, {0, 1}}, []int{0, most - 1, most}},
	} {
		if got, e := factor.Join(c.parts, c.states); !slices.Equal(got, c.want) || e != api.OK {
			t.Errorf("Join(%v, %v) is %v, %d, want %v", c.parts, c.states, got, e, c.want)
		}
	}
}

// P27.4: parts and states that are not valid
func TestJoinErrors(t *testing.T) {
	for _, c := range []struct{ parts, states [][]int }{
		{nil, [][]int{{}}}, {[][]int{{}}, nil}, {[][]int{{0}}, [][]int{{}, {}}}, {[][]int{{0}, {1}}, [][]int{{0}}},
		{[][]int{{0, 1}, {1}}, [][]int{{}, {}}}, {[][]int{{1}, {2}, {1}}, [][]int{{}, {}, {}}}, {[][]int{{0, 5}, {1, 5}}, [][]int{{0}, {0}}},
		{[][]int{{1, 0}}, [][]int{{}}}, {[][]int{{0, 0}}, [][]int{{0}}}, {[][]int{{0, 2, 1}}, [][]int{{0}}}, {[][]int{{0}, {3, 2}}, [][]int{{}, {}}},
		{[][]int{{-1}}, [][]int{{}}}, {[][]int{{-1, 0}}, [][]int{{1}}}, {[][]int{{0}, {-1 << 63}}, [][]int{{}, {}}},
		{[][]int{{0}}, [][]int{{1}}}, {[][]int{{0}}, [][]int{{-1}}}, {[][]int{{0, 1}}, [][]int{{1, 0}}}, {[][]int{{0, 1}}, [][]int{{0, 0}}}, {[][]int{{0, 1}}, [][]int{{0, 1, 2}}}, {[][]int{{4, 5}}, [][]int{{4}}}, {[][]int{{}}, [][]int{{0}}}, {[][]int{{0}, {1}}, [][]int{{0}, {1}}}, {[][]int{{0}}, [][]int{{1 << 62}}},
	} {
		if got, e := factor.Join(c.parts, c.states); len(got) > 0 || e != api.ErrInvalid {
			t.Errorf("Join(%v, %v) is %v, %d", c.parts, c.states, got, e)
		}
	}
}

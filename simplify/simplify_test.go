package simplify_test

import (
	"fmt"
	"strings"
	"testing"

	"gameplayer/api"
	"gameplayer/network"
	"gameplayer/sample"
	"gameplayer/simplify"
)

// example is the listing of the network of the examples of the chapter.
const example = `0 base 0
1 true
2 and 0 1
3 not 2
4 not 3
5 or 4
6 base 0
role 0 x
fact 0 s
initial
next 0 5
terminal 6
`

// net makes a network of its gates, separated by semicolons, and of the gates of its outputs: Next, Legal, Goals, Sees and Terminal.
func net(gates string, next, legal, goal, sees, terminal int) api.Net {
	text := ""
	for i, g := range strings.Split(gates, "; ") {
		text += fmt.Sprintln(i, g)
	}
	text += fmt.Sprintf("role 0 x\nrole 1 y\nfact 0 a\nfact 1 f(b)\nmove 0 0 f(a)\nmove 1 1 c\ninitial 1\nnext 0 %d\nnext 1 %d\nlegal 0 %d\nlegal 1 %d\ngoal 0 40 %d\nsees 1 g(b) %d\nterminal %d\nhidden\n", next, next, legal, legal, goal, sees, terminal)
	return sample.Net(text)
}

// shown shows a network that net could have made.
func shown(n api.Net) string {
	if network.Check(n) != api.OK {
		return "not valid"
	}
	var gates []string
	for i, line := range strings.Split(network.Text(n), "\n")[:len(n.Gates)] {
		gates = append(gates, strings.TrimPrefix(line, fmt.Sprint(i, " ")))
	}
	return fmt.Sprint(strings.Join(gates, "; "), " | ", n.Next, n.Legal, n.Goals[0].Gate, n.Sees[0].Gate, n.Terminal)
}

// The examples of the chapter
func TestExamples(t *testing.T) {
	n := sample.Net(example)
	if got := network.Text(simplify.Net(n)); got != "0 base 0\nrole 0 x\nfact 0 s\ninitial\nnext 0 0\nterminal 0\n" {
		t.Error(got)
	}
	if got := network.Text(simplify.Prune(n)); got != example {
		t.Error(got)
	}
	if simplify.Simple(n) {
		t.Error("the example is simple")
	}
	n.Terminal = 0
	if got := network.Text(simplify.Prune(n)); got != strings.NewReplacer("6 base 0\n", "", "terminal 6", "terminal 0").Replace(example) {
		t.Error(got)
	}
}

// P22.1
func TestSimple(t *testing.T) {
	for _, n := range []api.Net{
		net("false", 0, 0, 0, 0, 0),
		net("true", 0, 0, 0, 0, 0),
		net("true; false", 0, 1, 1, 0, 0),
		net("base 0; base 1; input 0; input 1; false", 0, 1, 2, 3, 4),
		net("base 0; base 1; and 0 1; or 0 1; not 0", 0, 1, 2, 3, 4),
		net("base 0; base 1; and 0 1; or 0 1; not 0; not 2; and 0 2; or 0 2 5; not 3", 4, 5, 6, 7, 8),
		net("input 1; not 0; and 0 1; or 0 1 2; not 3", 4, 4, 4, 4, 4),
		net("base 1; input 1; base 0; input 0; and 0 1 2 3", 4, 4, 4, 4, 4),
		net("base 0; base 1; and 0 1; not 2; input 0; and 0 1 4", 3, 5, 3, 5, 5),
	} {
		if !simplify.Simple(n) || !simple(n) {
			t.Errorf("%s is not simple", shown(n))
		}
	}
	for _, n := range []api.Net{
		net("false; base 0; or 0 1", 2, 2, 2, 2, 2),
		net("true; base 0; or 0 1", 2, 2, 2, 2, 2),
		net("false; base 0; and 0 1", 2, 2, 2, 2, 2),
		net("base 0; true; and 0 1", 2, 2, 2, 2, 2),
		net("true; not 0", 1, 1, 1, 1, 1),
		net("false; not 0", 1, 1, 1, 1, 1),
		net("base 0; and 0", 1, 1, 1, 1, 1),
		net("base 0; or 0", 1, 1, 1, 1, 1),
		net("base 0; not 0; not 1", 2, 2, 2, 2, 2),
		net("base 0; base 0", 0, 1, 0, 1, 0),
		net("input 1; base 0; input 1", 0, 1, 2, 1, 0),
		net("true; true", 0, 1, 0, 1, 0),
		net("false; false", 0, 1, 0, 1, 0),
		net("base 0; not 0; not 0", 0, 1, 2, 1, 0),
		net("base 0; base 1; and 0 1; or 0 1; and 0 1", 0, 1, 2, 3, 4),
		net("base 0; base 1; and 0 1; or 0 1; or 0 1", 0, 1, 2, 3, 4),
		net("base 0; base 1", 0, 0, 0, 0, 0),
		net("base 1; base 0", 1, 1, 1, 1, 1),
		net("base 0; input 0; not 1; and 0 1", 3, 0, 1, 0, 3),
		net("base 0; input 0; and 0 1; true", 2, 2, 2, 2, 2),
		sample.Net(example),
	} {
		if simplify.Simple(n) || simple(n) {
			t.Errorf("%s is simple", network.Text(n))
		}
	}
}

// P22.5
func TestPrune(t *testing.T) {
	const all = "base 0; input 0; not 1; base 1; and 0 2; or 1 3; input 1; not 5; false"
	for _, c := range []struct {
		n    api.Net
		want string
	}{
		{net(all, 4, 7, 8, 6, 4), all + " | [4 4] [7 7] 8 6 4"},
		{net(all, 4, 4, 4, 4, 4), "base 0; input 0; not 1; and 0 2 | [3 3] [3 3] 3 3 3"},
		{net(all, 7, 7, 7, 7, 7), "input 0; base 1; or 0 1; not 2 | [3 3] [3 3] 3 3 3"},
		{net(all, 8, 6, 3, 2, 2), "input 0; not 0; base 1; input 1; false | [4 4] [3 3] 2 1 1"},
		{net(all, 2, 3, 6, 8, 0), "base 0; input 0; not 1; base 1; input 1; false | [2 2] [3 3] 4 5 0"},
		{net(all, 0, 0, 0, 0, 0), "base 0 | [0 0] [0 0] 0 0 0"},
		{net("true; and 0; base 0; base 0; not 1; not 4; or 0 5; true", 6, 7, 3, 3, 3), "true; and 0; base 0; not 1; not 3; or 0 4; true | [5 5] [6 6] 2 2 2"},
	} {
		if got := shown(simplify.Prune(c.n)); got != c.want {
			t.Errorf("%s: %s, want %s", shown(c.n), got, c.want)
		}
	}
}

// P22.3: gates that Fold must replace
func TestFold(t *testing.T) {
	for _, n := range []api.Net{
		net("true; false; and 0; or 0; not 0; and 1; or 1; not 1", 2, 3, 4, 5, 6),
		net("true; false; base 0; and 0 1; or 0 1; and 0 2; or 0 2; and 1 2; or 1 2", 4, 5, 6, 7, 8),
		net("true; true; false; false; and 0 1; or 2 3; not 4; not 5; and 4 6; or 5 7; and 6 7", 6, 7, 8, 9, 10),
		net("base 0; and 0; or 1; and 2; or 3; not 4; and 5; not 6; not 7", 2, 5, 6, 7, 8),
		net("base 0; not 0; not 1; and 0 2; or 0 1 2; not 3; and 0 1", 2, 3, 4, 5, 6),
		net("base 0; base 1; true; not 2; or 0 3; and 1 2; and 4 5; or 4 5; not 7; not 8", 4, 5, 6, 7, 9),
		net("base 0; input 1; not 0; not 1; not 2; not 3; and 4 5; and 0 5; or 1 4; or 5 6", 4, 6, 7, 8, 9),
		net("input 0; base 0; not 0; not 1; and 2 3; not 4; not 5; or 4 6; and 6 7", 5, 6, 7, 8, 8),
	} {
		examine(t, n)
	}
}

// P22.4: gates that Merge must replace
func TestMerge(t *testing.T) {
	for _, n := range []api.Net{
		net("true; true; false; false; true; false; base 0; base 0; base 1; base 1; input 0; input 0; input 1; input 1", 5, 7, 9, 11, 13),
		net("base 0; base 0; not 0; not 1; not 0; and 0 2; and 1 3; or 0 2; or 1 4", 3, 4, 6, 7, 8),
		net("base 0; base 0; and 0 1; or 0 1; and 0; or 1; and 1; or 0", 2, 3, 4, 5, 6),
		net("base 0; base 1; and 0 1; base 1; base 0; and 3 4; and 1 4; and 0 3; or 2 5 6; or 0 3; or 4 5", 6, 7, 8, 9, 10),
		net("base 0; base 1; input 0; input 1; base 0; not 0; not 2; not 1; not 3; not 4", 9, 8, 7, 6, 4),
		net("base 0; base 1; or 0 1; base 0; and 0 2; and 2 3; not 4; not 5; or 6 7; and 6 7", 4, 5, 7, 8, 9),
	} {
		examine(t, n)
		if merged(n) {
			t.Errorf("%s need not be changed", shown(n))
		}
	}
}

// P22.2: networks that can be simplified in one way, except for the order of the gates
func TestNet(t *testing.T) {
	for _, c := range []struct {
		n    api.Net
		want string
	}{
		{net("true; false; not 0; not 1; and 0 1; or 0 1; and 0; or 1", 2, 3, 4, 5, 6), "true; false | [1 1] [0 0] 1 0 0"},
		{net("true; false; not 0; not 1; and 0 1; or 0 1; and 0; or 1", 3, 2, 5, 4, 7), "true; false | [0 0] [1 1] 0 1 1"},
		{net("base 0; base 1; true; false; and 0 1 2; or 0 1 3; and 0 2; or 1 3; and 0 1 3; or 0 1 2", 4, 5, 6, 7, 8), "base 0; base 1; false; and 0 1; or 0 1 | [3 3] [4 4] 0 1 2"},
		{net("base 0; base 1; true; false; and 0 1 2; or 0 1 3; and 0 2; or 1 3; and 0 1 3; or 0 1 2", 9, 9, 8, 8, 0), "base 0; true; false | [1 1] [1 1] 2 2 0"},
		{net("input 0; not 0; not 1; not 2; not 3; not 4", 1, 2, 3, 4, 5), "input 0; not 0 | [1 1] [0 0] 1 0 1"},
		{net("base 0; base 0; and 0 1; or 0 1; not 2; not 3; and 4 5; or 0 6", 0, 1, 2, 6, 7), "base 0; not 0; or 0 1 | [0 0] [0 0] 0 1 2"},
		{net("base 0; base 1; and 0 1; base 1; base 0; and 3 4; or 2 5; input 1; or 6 7; or 2 7", 8, 9, 2, 6, 5), "base 0; base 1; and 0 1; input 1; or 2 3 | [4 4] [4 4] 2 2 2"},
		{net("base 0; not 0; input 0; not 1; and 2 3; and 0 2; or 4 5; not 6; not 7", 8, 8, 8, 8, 8), "base 0; input 0; and 0 1 | [2 2] [2 2] 2 2 2"},
	} {
		if got := shown(simplify.Net(c.n)); got != c.want {
			t.Errorf("%s: %s, want %s", shown(c.n), got, c.want)
		}
		for _, n := range []api.Net{simplify.Net(c.n), c.n} {
			examine(t, n)
		}
	}
}

// P22.2 to P22.5: for a network that is not valid, the zero Net; P22.1: it is not simple.
func TestNotValid(t *testing.T) {
	late, unordered, kind, index, goals := sample.Net(example), sample.Net(example), sample.Net(example), sample.Net(example), sample.Net(example)
	late.Terminal = 7
	unordered.Gates[2].In = []int{1, 0}
	kind.Gates[6].Kind = 7
	index.Gates[0].Index = 1
	goals.Goals = []api.Output{{Role: 1}}
	large := sample.Net(example)
	large.Gates = append(large.Gates, make([]api.Gate, api.MaxGates-6)...)
	simpler := net("base 0; base 1; and 0 1; or 0 1; not 0", 0, 1, 2, 3, 4)
	simpler.Roles = nil
	for i, n := range []api.Net{{}, late, unordered, kind, index, goals, large, simpler} {
		if network.Check(n) == api.OK || simplify.Simple(n) {
			t.Errorf("%d is valid or simple", i)
		}
		for k, f := range functions() {
			if got := f(n); fmt.Sprint(got) != fmt.Sprint(api.Net{}) {
				t.Errorf("%d, %d: %d gates", i, k, len(got.Gates))
			}
		}
	}
}

// functions are those that return a network.
func functions() []func(n api.Net) api.Net {
	return []func(n api.Net) api.Net{simplify.Net, simplify.Fold, simplify.Merge, simplify.Prune}
}

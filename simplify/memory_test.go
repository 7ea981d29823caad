package simplify_test

import (
	"fmt"
	"slices"
	"testing"

	"gameplayer/api"
	"gameplayer/network"
	"gameplayer/sample"
	"gameplayer/simplify"
)

// R5: arguments are not modified, nor is their spare capacity; results share no memory with them, and their lists none with one another.
func TestMemory(t *testing.T) {
	for _, n := range []api.Net{
		sample.RoomyNet(sample.Net(example)),
		sample.RoomyNet(net("base 0; input 0; true; base 0; and 0 1 2; or 1 3; not 4; not 6; and 4 5 7; or 0 8; false; or 0 1 10", 4, 5, 9, 8, 11)),
		sample.RoomyNet(net("base 0; base 1; and 0 1; or 0 1; not 0; not 2; and 0 2; or 0 2 5; not 3", 4, 5, 6, 7, 8)), // a simple one
	} {
		before := sample.ShowNet(n)
		var texts []string
		for range 2 {
			text := fmt.Sprint(simplify.Simple(n))
			for _, f := range functions() {
				got := f(n)
				text += network.Text(got)
				if sample.SharesNet(got) {
					t.Errorf("lists of %s share memory", network.Text(got))
				}
				sample.SpoilNet(got)
			}
			texts = append(texts, text)
		}
		if sample.ShowNet(n) != before {
			t.Error("arguments have changed")
		}
		if texts[0] != texts[1] {
			t.Errorf("%s, then %s", texts[0], texts[1])
		}
	}
}

// R4: empty lists may be nil or not.
func TestEmptyLists(t *testing.T) {
	n := sample.Net("0 false\n1 base 0\n2 not 1\nrole 0 x\nfact 0 a\ninitial\nnext 0 1\nterminal 2\n")
	for i, g := range n.Gates {
		n.Gates[i].In = append([]int{}, g.In...)
	}
	n.Roles[0].Args, n.Bases[0].Args, n.Inputs, n.Initial, n.Legal, n.Goals, n.Sees = []api.Term{}, []api.Term{}, []api.Input{}, []int{}, []int{}, []api.Output{}, []api.Output{}
	examine(t, n)
	if got := network.Text(simplify.Net(n)); got != "0 base 0\n1 not 0\nrole 0 x\nfact 0 a\ninitial\nnext 0 0\nterminal 1\n" {
		t.Error(got)
	}
}

// R1: as many gates that read as many others as there may be
func TestDenseNetworks(t *testing.T) {
	const count = 3000 // with all that there may be, each call takes some seconds
	n := sample.Net("0 base 0\n1 base 1\nrole 0 x\nfact 0 a\nfact 1 b\ninitial\nnext 0 0\nnext 1 1\nterminal 0\n")
	all := []int{0, 1}
	for i := 2; i < count; i++ {
		n.Gates = append(n.Gates, api.Gate{Kind: api.GateAnd + i%2, In: all[:i]})
		all = append(all, i)
	}
	n.Terminal = count - 1
	if !simplify.Simple(n) {
		t.Error("not simple")
	}
	for i, f := range functions() {
		if got := f(n); len(got.Gates) != count || !slices.Equal(got.Gates[count-1].In, all[:count-1]) {
			t.Error(i, len(got.Gates))
		}
	}
	n.Gates[1] = n.Gates[0]
	if got := simplify.Merge(n); len(got.Gates) != count-1 {
		t.Error(len(got.Gates))
	}
	if got := simplify.Net(n); len(got.Gates) != 1 {
		t.Error(len(got.Gates))
	}
}

// R1: as many gates as there may be, one reading the other
func TestLongChain(t *testing.T) {
	n := sample.Net("0 base 0\nrole 0 x\nfact 0 a\ninitial\nnext 0 0\nterminal 0\n")
	for i := 1; i < api.MaxGates; i++ {
		n.Gates = append(n.Gates, api.Gate{Kind: api.GateNot, In: []int{i - 1}})
	}
	n.Terminal = api.MaxGates - 1
	if got := network.Text(simplify.Net(n)); got != "0 base 0\n1 not 0\nrole 0 x\nfact 0 a\ninitial\nnext 0 0\nterminal 1\n" {
		t.Error(got)
	}
	if got := simplify.Fold(n); network.Check(got) != api.OK || !folded(got) {
		t.Error(len(got.Gates))
	}
	for _, got := range []api.Net{simplify.Merge(n), simplify.Prune(n)} {
		if network.Text(got) != network.Text(n) {
			t.Error(len(got.Gates))
		}
	}
}

// R1: any values
func TestAnyValues(t *testing.T) {
	numbers := []int{0, 1, -1, 1<<63 - 1, -1 << 63}
	odd := []api.Term{{}, {Name: "X"}, {Name: "f", Args: []api.Term{{}}}, {Name: "f", Args: make([]api.Term, 1<<16)}}
	for _, i := range numbers {
		for _, k := range numbers {
			for _, x := range odd {
				n := api.Net{Gates: []api.Gate{{Kind: k, Index: i, In: numbers}, {Kind: i, Index: k, In: []int{i}}}, Roles: []api.Term{x}, Bases: []api.Term{x, x}, Inputs: []api.Input{{Role: i, Move: x}}, Initial: numbers, Next: numbers, Legal: []int{k}, Goals: []api.Output{{Role: i, Value: k, Term: x, Gate: i}}, Sees: []api.Output{{Role: k, Value: i, Term: x, Gate: k}}, Terminal: i}
				if simplify.Simple(n) {
					t.Error("simple")
				}
				for _, f := range functions() {
					if got := f(n); len(got.Gates)+len(got.Roles)+len(got.Bases) > 0 {
						t.Error(got)
					}
				}
			}
		}
	}
}

package evaluate_test

import (
	"fmt"
	"testing"

	"gameplayer/api"
	"gameplayer/evaluate"
	"gameplayer/sample"
)

// R5: arguments are not modified, nor is their spare capacity; results share no memory with them.
func TestMemory(t *testing.T) {
	n := sample.RoomyNet(sample.Net(mixed))
	state, inputs := append(make([]int, 0, 9), 0, 1), append(make([]int, 0, 9), 0, 1, 2)
	shown := func() string {
		return sample.ShowNet(n) + fmt.Sprint(state, state[:9], inputs, inputs[:9])
	}
	before, want := shown(), results(n, state, inputs)
	for range 2 {
		if got := results(n, state, inputs); got != want {
			t.Errorf("%s, want %s", got, want)
		}
		values, _ := evaluate.Values(n, state, inputs)
		clear(values[:cap(values)])
		next, _ := evaluate.Next(n, state, inputs)
		legal, _ := evaluate.Legal(n, state)
		goals, _ := evaluate.Goals(n, state, 0)
		for _, l := range [][]int{next, legal, goals} {
			if len(l) == 0 {
				t.Error("nothing to change")
			}
			for i := range l[:cap(l)] {
				l[:cap(l)][i] = -9
			}
		}
		for role := range 2 {
			sees, _ := evaluate.Sees(n, state, inputs, role)
			sample.Spoil(sees)
		}
		if shown() != before {
			t.Fatal("arguments have changed")
		}
	}
}

// R5: percepts share no memory with one another.
func TestPercepts(t *testing.T) {
	n := sample.Net("0 true\nrole 0 x\ninitial\nsees 0 f(a) 0\nsees 0 g(f(a)) 0\nterminal 0\n")
	n.Sees[1].Term.Args[0].Args = n.Sees[0].Term.Args
	sees, e := evaluate.Sees(n, nil, nil, 0)
	if texts(sees) != "f(a) g(f(a))" || e != api.OK || sample.SharesNet(api.Net{Bases: sees}) {
		t.Error(texts(sees), e)
	}
}

// R4: empty lists may be nil or not.
func TestEmptyLists(t *testing.T) {
	n := sample.Net("0 false\n1 not 0\nrole 0 x\ninitial\nterminal 1\n")
	want := "01 0; next [] 0; legal [] 0; terminal true 0; goals [] 0; sees [] 0"
	if got := results(n, nil, nil); got != want {
		t.Error(got)
	}
	n.Gates[0].In, n.Roles[0].Args, n.Bases, n.Inputs, n.Initial, n.Next, n.Legal, n.Goals, n.Sees = []int{}, []api.Term{}, []api.Term{}, []api.Input{}, []int{}, []int{}, []int{}, []api.Output{}, []api.Output{}
	if got := results(n, []int{}, []int{}); got != want {
		t.Error(got)
	}
}

// R1: as many gates that read as many others as there may be
func TestDenseNetwork(t *testing.T) {
	all := []int{}
	for i := range api.MaxGates {
		all = append(all, i)
	}
	n := sample.Net("0 base 0\nrole 0 x\nfact 0 a\ninitial\nnext 0 0\nterminal 0\n")
	for i := 1; i < api.MaxGates; i++ {
		n.Gates = append(n.Gates, api.Gate{Kind: api.GateAnd + i%2, In: all[:i]})
	}
	n.Next[0] = api.MaxGates - 1
	for _, state := range [][]int{nil, {0}} {
		if next, e := evaluate.Next(n, state, nil); len(next) != len(state) || e != api.OK {
			t.Error(next, e)
		}
	}
	for i := 1; i < api.MaxGates; i++ { // one gate reading the other
		n.Gates[i] = api.Gate{Kind: api.GateNot, In: all[i-1 : i]}
	}
	for _, state := range [][]int{nil, {0}} {
		if next, e := evaluate.Next(n, state, nil); len(next) != 1-len(state) || e != api.OK {
			t.Error(next, e)
		}
	}
}

// R1: any values
func TestAnyValues(t *testing.T) {
	far := api.Term{Name: "a"}
	for range 1 << 16 {
		far = api.Term{Name: "f", Args: []api.Term{far}}
	}
	numbers := []int{0, 1, -1, 1<<63 - 1, -1 << 63}
	odd := []api.Term{{}, {Name: "X"}, {Name: "f", Args: []api.Term{{}}}, {Name: "f", Args: make([]api.Term, 1<<16)}, far}
	const invalid, state, move = api.ErrInvalid, api.ErrState, api.ErrMove
	for _, i := range numbers {
		for _, k := range numbers {
			for _, x := range odd {
				n := api.Net{Gates: []api.Gate{{Kind: k, Index: i, In: numbers}, {Kind: i, Index: k, In: []int{i}}}, Roles: []api.Term{x}, Bases: []api.Term{x, x}, Inputs: []api.Input{{Role: i, Move: x}}, Initial: numbers, Next: numbers, Legal: []int{k}, Goals: []api.Output{{Role: i, Value: k, Term: x, Gate: i}}, Sees: []api.Output{{Role: k, Value: i, Term: x, Gate: k}}, Terminal: i}
				fails(t, n, numbers, []int{i}, k, invalid, invalid, invalid, invalid)
			}
			results(sample.Net(mixed), []int{i, k}, []int{k})
			evaluate.Goals(sample.Net(mixed), []int{i}, k)
			evaluate.Sees(sample.Net(mixed), nil, []int{i}, k)
		}
	}
	long := make([]int, 1<<20)
	fails(t, sample.Net(mixed), long, long, 0, state, state, state, state)
	fails(t, sample.Net(mixed), nil, long, 0, move, move, api.OK, api.OK)
}

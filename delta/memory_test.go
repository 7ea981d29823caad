package delta_test

import (
	"fmt"
	"slices"
	"testing"

	"gameplayer/api"
	"gameplayer/delta"
	"gameplayer/sample"
)

// spoil changes everything in a list and in its spare capacity.
func spoil[T any](l []T, value T) {
	for i := range l[:cap(l)] {
		l[:cap(l)][i] = value
	}
}

// R5: arguments are not modified, nor is their spare capacity.
func TestArgumentsStay(t *testing.T) {
	n := sample.RoomyNet(sample.Net(mixed))
	state, inputs := append(make([]int, 0, 9), 0, 1), append(make([]int, 0, 9), 0, 1, 2)
	shown := func() string { return sample.ShowNet(n) + fmt.Sprint(state[:9], inputs[:9]) }
	before := shown()
	x := engine(t, n)
	for range 2 {
		if _, e := x.Set(state, inputs); e != api.OK || !x.Value(7) {
			t.Error(e)
		}
		x.Set(inputs, state)
		x.Set(nil, nil)
	}
	if shown() != before {
		t.Error("arguments have changed")
	}
}

// R5: arguments are not retained, and results share no memory with the engine or with one another.
func TestMemory(t *testing.T) {
	n := sample.RoomyNet(sample.Net(mixed))
	x, other := engine(t, n), engine(t, n)
	sample.SpoilNet(n)
	for range 2 {
		state, inputs := append(make([]int, 0, 9), 0), append(make([]int, 0, 9), 1)
		set(t, x, state, inputs, 5, "01011100100010001 [0] [1] 5")
		spoil(state, -9)
		spoil(inputs, -9)
		values := x.Values()
		a, b := x.State()
		spoil(values, true)
		spoil(a, 7)
		if !slices.Equal(b, []int{1}) {
			t.Error(b)
		}
		spoil(b, 8)
		if got := shown(t, x); got != "01011100100010001 [0] [1] 5" {
			t.Error(got)
		}
		set(t, x, nil, nil, 5, "00000100010010001 [] [] 5")
	}
	set(t, x, []int{1}, nil, 2, "10000100010010101 [1] [] 3")
	if got := shown(t, other); got != "00000100010010001 [] [] 0" {
		t.Error(got)
	}
	set(t, other, []int{0}, nil, 5, "00011100011100001 [0] [] 5")
	if got := shown(t, x); got != "10000100010010101 [1] [] 3" {
		t.Error(got)
	}
}

// R4: empty lists may be nil or not.
func TestEmptyLists(t *testing.T) {
	n := sample.Net("0 false\n1 not 0\nrole 0 x\ninitial\nterminal 1\n")
	n.Gates[0].In, n.Roles[0].Args, n.Bases, n.Inputs, n.Initial, n.Next, n.Legal, n.Goals, n.Sees = []int{}, []api.Term{}, []api.Term{}, []api.Input{}, []int{}, []int{}, []int{}, []api.Output{}, []api.Output{}
	set(t, engine(t, n), []int{}, []int{}, 0, "01 [] [] 0")
	x := engine(t, sample.Net(sample.Switch))
	set(t, x, []int{}, []int{}, 0, "010 [] [] 0")
	set(t, x, []int{0}, []int{}, 2, "100 [0] [] 2")
	set(t, x, []int{}, nil, 2, "010 [] [] 2")
}

// R1: many gates that read as many others as there may be, or one reading the other
func TestLargeNetworks(t *testing.T) {
	var all []int
	for i := range api.MaxGates {
		all = append(all, i)
	}
	dense := sample.Net("0 base 0\nrole 0 x\nfact 0 a\ninitial\nnext 0 0\nterminal 0\n")
	chain := sample.Net("0 base 0\nrole 0 x\nfact 0 a\ninitial\nnext 0 0\nterminal 0\n")
	const count = 4000 // with all that there may be, an engine needs more than a gigabyte
	for i := 1; i < count; i++ {
		dense.Gates = append(dense.Gates, api.Gate{Kind: api.GateAnd + i%2, In: all[:i]})
	}
	for i := 1; i < api.MaxGates; i++ {
		chain.Gates = append(chain.Gates, api.Gate{Kind: api.GateNot, In: all[i-1 : i]})
	}
	for _, n := range []api.Net{dense, chain} {
		x := engine(t, n)
		for _, state := range [][]int{{0}, {0}, nil, nil, {0}} {
			want := len(n.Gates)
			if s, _ := x.State(); len(s) == len(state) {
				want = 0
			}
			if changed, e := x.Set(state, nil); changed != want || x.Work() != max(want-1, 0) || e != api.OK {
				t.Errorf("%d changed, %d, work %d, want %d", changed, e, x.Work(), want)
			}
		}
	}
}

// R1: any values
func TestAnyValues(t *testing.T) {
	numbers := []int{0, 1, -1, 1<<63 - 1, -1 << 63}
	odd := []api.Term{{}, {Name: "X"}, {Name: "f", Args: []api.Term{{}}}, {Name: "f", Args: make([]api.Term, 1<<16)}}
	x := engine(t, sample.Net(mixed))
	for _, i := range numbers {
		for _, k := range numbers {
			for _, a := range odd {
				n := api.Net{Gates: []api.Gate{{Kind: k, Index: i, In: numbers}, {Kind: i, Index: k, In: []int{i}}}, Roles: []api.Term{a}, Bases: []api.Term{a, a}, Inputs: []api.Input{{Role: i, Move: a}}, Initial: numbers, Next: numbers, Legal: []int{k}, Goals: []api.Output{{Role: i, Value: k, Term: a, Gate: i}}, Terminal: i}
				if made, e := delta.New(n); made != nil || e != api.ErrInvalid {
					t.Error(made, e)
				}
			}
			x.Set([]int{i, k}, []int{k})
			x.Set([]int{i}, []int{k, i})
			x.Value(i)
		}
	}
	long := make([]int, 1<<20)
	if _, e := x.Set(long, long); e != api.ErrState {
		t.Error(e)
	}
	if _, e := x.Set(nil, long); e != api.ErrMove {
		t.Error(e)
	}
}

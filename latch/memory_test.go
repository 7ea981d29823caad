package latch_test

import (
	"fmt"
	"strconv"
	"testing"

	"gameplayer/api"
	"gameplayer/latch"
	"gameplayer/network"
	"gameplayer/sample"
	"gameplayer/term"
)

// full is a network with all sorts of lists, in which every set of latch has a base.
func full() api.Net {
	n := several("10 and 0 2\n11 or 2 6\n12 and 3 7\n13 or 1 11\n", "0 3", 0, 1, 11, 12, 11, 5)
	n.Goals = []api.Output{{Value: 10, Gate: 13}}
	n.Sees = []api.Output{{Term: sample.Terms("f(g(a),b)")[0], Gate: 10}}
	n.Bases[5], n.Inputs[1].Move = sample.Terms("f(g(a))")[0], sample.Terms("f(c)")[0]
	return sample.RoomyNet(n)
}

// spoil changes everything in a list and in its spare capacity.
func spoil(l []int) {
	for i := range l[:cap(l)] {
		l[:cap(l)][i] = -9
	}
}

// R5: arguments are not modified, nor is their spare capacity; results share no memory with them, and the lists of a network none with one another.
func TestMemory(t *testing.T) {
	n := full()
	always, never := append(make([]int, 0, 9), 0, 2), append(make([]int, 0, 9), 1, 3)
	shown := func() string { return sample.ShowNet(n) + fmt.Sprint(always, always[:9], never, never[:9]) }
	before := shown()
	for range 2 {
		if got := found(t, n); got != "[0] [1 5] [2] [3]" || !closed(t, n, always, never) {
			t.Error(got)
		}
		for _, f := range []func(api.Net) ([]int, api.Errno){latch.Always, latch.Never, latch.Latches, latch.Traps} {
			l, _ := f(n)
			spoil(l)
		}
		f := frozen(t, n)
		if sample.SharesNet(f) {
			t.Error("lists of a network share memory")
		}
		sample.SpoilNet(f)
		if shown() != before {
			t.Fatal("arguments have changed")
		}
	}
	f := frozen(t, n)
	want := network.Text(f)
	sample.SpoilNet(n)
	if got := network.Text(f); got != want {
		t.Errorf("%s, want %s", got, want)
	}
}

// R4: empty lists may be nil or not.
func TestEmptyLists(t *testing.T) {
	n := sample.Net("0 false\n1 not 0\nrole 0 x\ninitial\nterminal 1\n")
	for range 2 {
		if got := found(t, n); got != "[] [] [] []" {
			t.Error(got)
		}
		if got := network.Text(frozen(t, n)); got != "0 true\nrole 0 x\ninitial\nterminal 0\n" {
			t.Error(got)
		}
		if !closed(t, n, nil, []int{}) || !closed(t, n, []int{}, nil) {
			t.Error("not closed")
		}
		n.Gates[0].In, n.Roles[0].Args, n.Bases, n.Inputs, n.Initial, n.Next, n.Legal, n.Goals, n.Sees = []int{}, []api.Term{}, []api.Term{}, []api.Input{}, []int{}, []int{}, []int{}, []api.Output{}, []api.Output{}
	}
}

// R1: many bases, each of which is followed by the one before it, and the first one by its negation or by itself
func TestManyBases(t *testing.T) {
	const count = 1000
	n := api.Net{Roles: sample.Terms("x")}
	for i := range count {
		n.Bases = append(n.Bases, api.Term{Name: strconv.Itoa(i)})
		n.Gates = append(n.Gates, api.Gate{Kind: api.GateBase, Index: i})
		n.Next = append(n.Next, i-1)
	}
	n.Bases = term.Sort(n.Bases)
	n.Gates = append(n.Gates, api.Gate{Kind: api.GateNot, In: []int{0}})
	n.Next[0] = count
	if got := found(t, n); got != "[] [] [] []" {
		t.Error(got)
	}
	n.Next[0] = 0
	if never, e := latch.Never(n); len(never) != count || e != api.OK {
		t.Error(len(never), e)
	}
	if f := frozen(t, n); len(f.Gates) != 1 {
		t.Error(len(f.Gates))
	}
}

// R1: many gates that read all gates before them
func TestDenseNetwork(t *testing.T) {
	const count = 4000 // with as many as there may be, the test needs ten seconds
	var all []int
	for i := range count {
		all = append(all, i)
	}
	n := sample.Net("0 base 0\n1 base 1\nrole 0 x\nfact 0 a\nfact 1 b\ninitial 0\nnext 0 0\nnext 1 0\nterminal 0\n")
	for i := 2; i < count; i++ {
		n.Gates = append(n.Gates, api.Gate{Kind: api.GateAnd + i%2, In: all[:i]})
	}
	n.Next[1] = count - 1 // base 0 or 1, that is, true
	if got := found(t, n); got != "[0] [] [1] []" {
		t.Error(got)
	}
	n.Next[0] = count - 2 // base 0 and 1
	if got := found(t, n); got != "[] [] [1] [0]" {
		t.Error(got)
	}
}

// R1: any values
func TestAnyValues(t *testing.T) {
	far := api.Term{Name: "a"}
	for range 1 << 16 {
		far = api.Term{Name: "f", Args: []api.Term{far}}
	}
	numbers := []int{0, 1, -1, 1<<63 - 1, -1 << 63}
	terms := []api.Term{{}, {Name: "X"}, {Name: "f", Args: []api.Term{{}}}, {Name: "f", Args: make([]api.Term, 1<<16)}, far}
	for _, i := range numbers {
		for _, k := range numbers {
			for _, x := range terms {
				n := api.Net{Gates: []api.Gate{{Kind: k, Index: i, In: numbers}, {Kind: i, Index: k, In: []int{i}}}, Roles: []api.Term{x}, Bases: []api.Term{x, x}, Inputs: []api.Input{{Role: i, Move: x}}, Initial: numbers, Next: numbers, Legal: []int{k}, Goals: []api.Output{{Role: i, Value: k, Term: x, Gate: i}}, Sees: []api.Output{{Role: k, Value: i, Term: x, Gate: k}}, Terminal: i}
				for _, f := range []func(api.Net) ([]int, api.Errno){latch.Always, latch.Never, latch.Latches, latch.Traps} {
					if l, e := f(n); len(l) > 0 || e != api.ErrInvalid {
						t.Error(l, e)
					}
				}
				if f, e := latch.Freeze(n); !zero(f) || e != api.ErrInvalid {
					t.Error(f, e)
				}
				if is, e := latch.Closed(n, numbers, []int{i, k}); is || e != api.ErrInvalid {
					t.Error(is, e)
				}
			}
			latch.Closed(pair(3), []int{i}, []int{k})
			latch.Closed(pair(3), []int{i, k}, nil)
		}
	}
	long := make([]int, 1<<20)
	if is, e := latch.Closed(pair(3), long, long); is || e != api.ErrState {
		t.Error(is, e)
	}
}

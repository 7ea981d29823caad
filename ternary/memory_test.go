package ternary_test

import (
	"fmt"
	"slices"
	"testing"

	"gameplayer/api"
	"gameplayer/sample"
	"gameplayer/ternary"
)

// spoil changes everything in a list and in its spare capacity.
func spoil(l []int) {
	for i := range l[:cap(l)] {
		l[:cap(l)][i] = -9
	}
}

// R5: arguments are not modified, nor is their spare capacity; results share no memory with them or with other results.
func TestMemory(t *testing.T) {
	n := sample.RoomyNet(sample.Net(mixed))
	bases, inputs := append(make([]int, 0, 9), 1, 0), append(make([]int, 0, 9), 2, 0, 1)
	shown := func() string { return sample.ShowNet(n) + fmt.Sprint(bases, bases[:9], inputs, inputs[:9]) }
	before := shown()
	for range 2 {
		values, e := ternary.Values(n, bases, inputs)
		if digits(values) != "00011120222222001" || e != api.OK {
			t.Error(values, e)
		}
		known := ternary.Known(n, bases)
		if digits(known) != "11" || !ternary.Refines(bases, bases) || ternary.Refines(bases, known) {
			t.Error(known)
		}
		other := ternary.Known(n, inputs)
		spoil(values)
		spoil(known)
		if digits(other) != "11" {
			t.Error(other)
		}
		spoil(other)
		if shown() != before {
			t.Fatal("arguments have changed")
		}
	}
	kept, _ := ternary.Values(n, bases, inputs)
	known := ternary.Known(n, bases)
	sample.SpoilNet(n)
	spoil(bases)
	spoil(inputs)
	if digits(kept) != "00011120222222001" || digits(known) != "11" {
		t.Error(kept, known)
	}
}

// R4: empty lists may be nil or not.
func TestEmptyLists(t *testing.T) {
	n := sample.Net("0 false\n1 not 0\nrole 0 x\ninitial\nterminal 1\n")
	n.Gates[0].In, n.Roles[0].Args, n.Bases, n.Inputs, n.Initial, n.Next, n.Legal, n.Goals, n.Sees = []int{}, []api.Term{}, []api.Term{}, []api.Input{}, []int{}, []int{}, []int{}, []api.Output{}, []api.Output{}
	for _, l := range [][]int{nil, {}} {
		if values, e := ternary.Values(n, l, l); digits(values) != "01" || e != api.OK {
			t.Error(values, e)
		}
		if known := ternary.Known(n, l); len(known) > 0 || !ternary.Refines(l, known) || !ternary.Refines(nil, l) {
			t.Error(known)
		}
	}
}

// R1: as many gates that read as many others as there may be, or one reading the other
func TestLargeNetworks(t *testing.T) {
	var all []int
	for i := range api.MaxGates {
		all = append(all, i)
	}
	n := sample.Net("0 base 0\nrole 0 x\nfact 0 a\ninitial\nnext 0 0\nterminal 0\n")
	for i := 1; i < api.MaxGates; i++ {
		n.Gates = append(n.Gates, api.Gate{Kind: api.GateAnd + i%2, In: all[:i]})
	}
	for _, value := range []int{0, 1, 2} {
		values, e := ternary.Values(n, []int{value}, nil)
		if slices.Min(values) != value || slices.Max(values) != value || e != api.OK {
			t.Errorf("%d: from %d to %d, %d", value, slices.Min(values), slices.Max(values), e)
		}
	}
	for i := 1; i < api.MaxGates; i++ {
		n.Gates[i] = api.Gate{Kind: api.GateNot, In: all[i-1 : i]}
	}
	for value, want := range []int{1, 0, 2} {
		values, e := ternary.Values(n, []int{value}, nil)
		if len(values) != api.MaxGates || values[api.MaxGates-1] != want || e != api.OK {
			t.Errorf("%d: %d values, %d", value, len(values), e)
		}
	}
}

// R1: any values
func TestAnyValues(t *testing.T) {
	far := api.Term{Name: "a"}
	for range 1 << 16 {
		far = api.Term{Name: "f", Args: []api.Term{far}}
	}
	numbers := []int{0, 1, -1, 1<<63 - 1, -1 << 63}
	terms := []api.Term{{}, {Name: "X"}, {Name: "f", Args: []api.Term{{}}}, {Name: "f", Args: make([]api.Term, 1<<16)}, far}
	for _, i := range numbers {
		for _, k := range numbers {
			for _, x := range terms {
				n := api.Net{Gates: []api.Gate{{Kind: k, Index: i, In: numbers}, {Kind: i, Index: k, In: []int{i}}}, Roles: []api.Term{x}, Bases: []api.Term{x, x}, Inputs: []api.Input{{Role: i, Move: x}}, Initial: numbers, Next: numbers, Legal: []int{k}, Goals: []api.Output{{Role: i, Value: k, Term: x, Gate: i}}, Sees: []api.Output{{Role: k, Value: i, Term: x, Gate: k}}, Terminal: i}
				fails(t, n, []int{i, k}, []int{k})
				if known := ternary.Known(n, numbers); len(known) > 0 {
					t.Error(known)
				}
			}
			if values, e := ternary.Values(sample.Net(mixed), []int{i, k}, []int{k, i, i}); len(values) != 17 || e != api.OK {
				t.Error(values, e)
			}
		}
	}
	long := make([]int, 1<<20)
	fails(t, sample.Net(mixed), long, long)
	if known := ternary.Known(sample.Net(mixed), long); digits(known) != "10" {
		t.Error(known)
	}
	if !ternary.Refines(long, long) || ternary.Refines(long, long[1:]) {
		t.Error("long lists")
	}
}

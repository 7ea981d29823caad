package network_test

import (
	"fmt"
	"slices"
	"testing"

	"gameplayer/api"
	"gameplayer/network"
	"gameplayer/sample"
)

// lists are the lists that the functions return for a network.
func lists(n api.Net, gates []int) [][]int {
	return append(network.Readers(n), network.Levels(n), network.Cone(n, 8), network.Affected(n, gates), network.Counts(n), network.Roots(n))
}

// R5: arguments are not modified, nor is their spare capacity; results share no memory with them or with one another.
func TestMemory(t *testing.T) {
	n := sample.RoomyNet(sample.Net(mixed))
	gates := append(make([]int, 0, 9), 6, 2, 99, -1)
	shown := func() string { return sample.ShowNet(n) + fmt.Sprint(gates[:cap(gates)]) }
	before, want := shown(), fmt.Sprint(lists(n, gates))
	for range 2 {
		l := lists(n, gates)
		for i, x := range l {
			if got := fmt.Sprint(l[i+1:]); got != fmt.Sprint(lists(n, gates)[i+1:]) {
				t.Errorf("a list of %d has changed: %s", i, got)
			}
			for k := range x[:cap(x)] {
				x[:cap(x)][k] = -9
			}
		}
		if got := fmt.Sprint(lists(n, gates)); got != want || network.Text(n) != mixed || network.Check(n) != api.OK {
			t.Errorf("%s, want %s", got, want)
		}
		if shown() != before {
			t.Fatal("arguments have changed")
		}
	}
}

// R4: empty lists may be nil or not.
func TestEmptyLists(t *testing.T) {
	full := api.Net{Gates: []api.Gate{{In: []int{}}}, Roles: []api.Term{{Name: "x", Args: []api.Term{}}}, Bases: []api.Term{}, Inputs: []api.Input{}, Initial: []int{}, Next: []int{}, Legal: []int{}, Goals: []api.Output{}, Sees: []api.Output{}}
	if e := network.Check(full); e != api.OK || network.Text(full) != least {
		t.Error(e, network.Text(full))
	}
	full.Goals = []api.Output{{Value: 1, Term: api.Term{Args: []api.Term{}}}}
	if e := network.Check(full); e != api.OK {
		t.Error(e)
	}
	if l := network.Affected(full, []int{}); len(l) > 0 {
		t.Error(l)
	}
}

// R1: as many gates that read as many others as there may be
func TestDenseNetwork(t *testing.T) {
	for _, count := range []int{2000, api.MaxGates} {
		all := where(count, func(int) bool { return true })
		n := sample.Net(least)
		for i := 1; i < count; i++ {
			n.Gates = append(n.Gates, api.Gate{Kind: api.GateAnd + i%2, In: all[:i]})
		}
		if e := network.Check(n); e != api.OK {
			t.Fatal(e)
		}
		if !slices.Equal(network.Levels(n), all) || !slices.Equal(network.Cone(n, count-1), all) || !slices.Equal(network.Affected(n, []int{0}), all) || !slices.Equal(network.Roots(n), []int{0}) {
			t.Error(count)
		}
		if count < 3000 { // larger results take long to build
			readers := network.Readers(n)
			for i, l := range readers {
				if !slices.Equal(l, all[i+1:]) {
					t.Error(i, l)
				}
			}
			if got := network.Text(sample.Net(network.Text(n))); got != network.Text(n) {
				t.Error("another text")
			}
		}
	}
}

// R1: any values
func TestAnyValues(t *testing.T) {
	far := api.Term{Name: "a"}
	for range 1 << 16 {
		far = api.Term{Name: "f", Args: []api.Term{far}}
	}
	wide := api.Term{Name: "f", Args: slices.Repeat([]api.Term{{Name: "a"}}, 1<<16)}
	odd := []api.Term{{}, {Name: "X"}, {Name: "if"}, {Name: "007"}, {Name: "f", Args: []api.Term{{}}}, {Name: string(make([]byte, 1<<16))}, far, wide}
	numbers := []int{0, 1, -1, 1<<63 - 1, -1 << 63}
	for _, x := range odd {
		for _, i := range numbers {
			n := api.Net{Gates: make([]api.Gate, 1), Roles: []api.Term{{Name: "x"}}, Bases: []api.Term{x, x}, Next: []int{i, i}, Initial: []int{i}, Goals: []api.Output{{Role: i, Value: i, Term: x, Gate: i}}, Sees: []api.Output{{Role: i, Value: i, Term: x, Gate: i}, {Role: i, Term: x}}, Inputs: []api.Input{{Role: i, Move: x}, {Role: i, Move: x}}, Legal: numbers, Terminal: i}
			for _, roles := range [][]api.Term{{x}, {x, x}, make([]api.Term, 1<<16), n.Roles} {
				n.Roles = roles
				if e := network.Check(n); e != api.ErrInvalid {
					t.Error(e)
				}
				if l := slices.Concat(lists(n, numbers)...); len(l) > 0 || network.Text(n) != "" {
					t.Error(l)
				}
			}
			for _, kind := range numbers {
				n.Gates = []api.Gate{{Kind: kind, Index: i, In: []int{i}}, {Kind: i, Index: kind, In: numbers}}
				network.Check(n)
			}
			network.Cone(sample.Net(mixed), i)
		}
	}
	long := make([]int, 1<<20)
	for _, n := range []api.Net{
		{Gates: []api.Gate{{Kind: api.GateAnd, In: long}}}, {Gates: make([]api.Gate, 1), Roles: terms("x"), Initial: long}, {Gates: make([]api.Gate, 1), Roles: terms("x"), Next: long}, {Gates: make([]api.Gate, 1), Roles: terms("x"), Inputs: make([]api.Input, 1<<20), Legal: long}, {Gates: make([]api.Gate, 1), Roles: terms("x"), Goals: make([]api.Output, 1<<20)}, {Gates: make([]api.Gate, 1), Roles: terms("x"), Sees: make([]api.Output, 1<<20)},
	} {
		if e := network.Check(n); e == api.OK {
			t.Error("valid")
		}
	}
	if l := network.Affected(sample.Net(mixed), long); !slices.Equal(l, []int{0, 8, 9, 10}) {
		t.Error(l)
	}
}

package strata_test

import (
	"fmt"
	"slices"
	"testing"

	"gameplayer/api"
	"gameplayer/strata"
)

// roomyRules are rules with spare capacity.
func roomyRules() []api.Rule {
	l := append(make([]api.Rule, 0, 9), rule("z", "y", "-x"), rule("x", "-b", "a"), rule("x"), rule("distinct", "-c"), rule("a"))
	for i := range l {
		l[i].Body = append(make([]api.Literal, 0, 4), l[i].Body...)
	}
	return l
}

// R5: arguments are not modified, nor is their spare capacity.
func TestArgumentsStay(t *testing.T) {
	l := roomyRules()
	list := append(make([]api.Level, 0, 12), levels("a:1 b:0 c:9 x:3 y:1 z:4")...)
	strata.Levels(l)
	strata.Order(l)
	strata.Cycle(l)
	strata.Of(list, "x")
	if !strata.Valid(l, list) {
		t.Error("the levels are valid")
	}
	all := func(l []api.Rule) string {
		s := fmt.Sprint(l[:cap(l)])
		for _, r := range l {
			s += fmt.Sprint(r.Body[:cap(r.Body)])
		}
		return s
	}
	if all(l) != all(roomyRules()) || !slices.Equal(list[:12], append(levels("a:1 b:0 c:9 x:3 y:1 z:4"), make([]api.Level, 6)...)) {
		t.Error(l, list)
	}
}

// R5: no two lists of a result share memory.
func TestOrderIsNewMemory(t *testing.T) {
	order, _ := strata.Order(roomyRules())
	want := [][]int{{4}, {1, 2}, {0}}
	for i, list := range order {
		if !equalLists(order[i:], want[i:]) {
			t.Fatal(order)
		}
		for k := range list[:cap(list)] {
			list[:cap(list)][k] = -1
		}
	}
}

// chain are rules each of which negates the relation of the next one.
func chain(n int) []api.Rule {
	var l []api.Rule
	for i := range n {
		l = append(l, rule(fmt.Sprintf("n%06d", i), fmt.Sprintf("-n%06d", i+1)))
	}
	return l
}

// R1: a description with many strata
func TestManyStrata(t *testing.T) {
	const n = 1 << 17
	l := chain(n)
	got, e := strata.Levels(l)
	if e != api.OK || len(got) != n+1 || got[0].Level != n || got[n].Level != 0 || !strata.Valid(l, got) {
		t.Error("Levels", e, len(got))
	}
	order, e := strata.Order(l)
	if e != api.OK || len(order) != n+1 || len(order[0]) != 0 || order[1][0] != n-1 || order[n][0] != 0 {
		t.Error("Order", e, len(order))
	}
	if cycle := strata.Cycle(l); len(cycle) != 0 {
		t.Error("Cycle", len(cycle))
	}
}

// R1: one long recursion
func TestLongCycle(t *testing.T) {
	const n = 1 << 12
	l := append(chain(n), rule(fmt.Sprintf("n%06d", n), "n000000"))
	got := strata.Cycle(l)
	if len(got) != n+1 || !slices.IsSorted(got) {
		t.Error(len(got))
	}
	if _, e := strata.Levels(l); e != api.ErrCycle {
		t.Error(e)
	}
}

// R1: a recursion that has very many ways
func TestManyWays(t *testing.T) {
	const n = 40
	l := []api.Rule{rule("z", "-a00")}
	var want []string
	for i := range n {
		a, b, next := fmt.Sprintf("a%02d", i), fmt.Sprintf("b%02d", i), fmt.Sprintf("a%02d", i+1)
		l = append(l, rule(a, b, "c"+b), rule(b, next), rule("c"+b, next))
		want = append(want, a, b)
	}
	l = append(l, rule(fmt.Sprintf("a%02d", n), "z"))
	want = slices.Concat([]string{"z"}, want, []string{fmt.Sprintf("a%02d", n)})
	if got := strata.Cycle(l); !slices.Equal(got, want) {
		t.Error(got)
	}
}

package term_test

import (
	"slices"
	"testing"

	"gameplayer/api"
	"gameplayer/term"
)

// ascending is a list in the order that the chapter defines, written out; it also has terms that are not valid.
func ascending() []api.Term {
	l := leaves("0", "1", "2", "9", "10", "11", "99", "100", "1000", "9999")
	l = append(l, leaves("", "-1", "00", "01", "10000", "1a", "X-y", "_", "a", "a-", "a1", "a_b", "aa", "ab", "abcdefghijklmnop", "abcdefghijklmnopq", "and", "b", "if", "z", "\xff")...)
	l = append(l, leaves("A", "AA", "Aa", "B", "X", "X1", "XY", "Z")...)
	return append(l,
		fun("", leaf("a")),
		fun("10", leaf("a")),
		fun("9", leaf("a")),
		fun("X", leaf("a")),
		fun("a", leaf("9")),
		fun("a", leaf("10")),
		fun("a", leaf("a")),
		fun("a", leaf("X")),
		fun("a", fun("a", leaf("a"))),
		fun("a", fun("b", leaf("9"))),
		fun("a", fun("a", leaf("a"), leaf("a"))),
		fun("f", leaf("a")),
		fun("f", leaf("b")),
		fun("g", leaf("1")),
		fun("a", leaf("1"), fun("z", leaf("z"))),
		fun("a", leaf("2"), leaf("1")),
		fun("a", leaf("2"), leaf("X")),
		fun("a", leaf("10"), leaf("1")),
		fun("a", leaf("a"), leaf("a")),
		fun("a", fun("z", leaf("z")), leaf("1")),
		fun("b", leaf("1"), leaf("1")),
		fun("a", leaves("a", "a", "a")...),
		fun("a", leaves("a", "a", "b")...),
		fun("a", leaves("a", "b", "a")...),
		fun("a", leaves("1", "1", "1", "1")...),
		fun("a", leaves("1", "1", "1", "1", "1")...),
	)
}

func sign(n int) int {
	switch {
	case n < 0:
		return -1
	case n > 0:
		return 1
	}
	return 0
}

// P1.5, P1.8: as all pairs have the order of their places, it is total.
func TestCompare(t *testing.T) {
	l := ascending()
	for i := range l {
		for k := range l {
			if c := term.Compare(l[i], l[k]); c != sign(i-k) {
				t.Errorf("%q and %q: %d", term.Text(l[i]), term.Text(l[k]), c)
			}
		}
	}
}

// P1.5: an empty list may be nil or not (R4)
func TestCompareEmptyArgs(t *testing.T) {
	for _, s := range []string{"a", "1", "X", ""} {
		empty := api.Term{Name: s, Args: []api.Term{}}
		if term.Compare(leaf(s), empty) != 0 || term.Compare(empty, leaf(s)) != 0 || term.Compare(empty, fun("a", leaf("a"))) != -1 {
			t.Errorf("%q", s)
		}
	}
}

// P1.8: the order is total on all terms with few parts, and terms that compare as 0 are equal.
func TestOrderIsTotal(t *testing.T) {
	l := leaves("2", "10", "a", "X", "", "f")
	for _, name := range []string{"f", "a", "X"} {
		for _, x := range l[:6] {
			l = append(l, fun(name, x), fun(name, fun(name, x)))
			for _, y := range l[:6] {
				l = append(l, fun(name, x, y))
			}
		}
	}
	for _, x := range l {
		for _, y := range l {
			c := term.Compare(x, y)
			if (c == 0) != equal(x, y) || c != -term.Compare(y, x) || c < -1 || c > 1 {
				t.Fatalf("%q and %q: %d", term.Text(x), term.Text(y), c)
			}
			for _, z := range l {
				if c <= 0 && term.Compare(y, z) <= 0 && term.Compare(x, z) > 0 {
					t.Fatalf("%q, %q, %q", term.Text(x), term.Text(y), term.Text(z))
				}
			}
		}
	}
}

// P1.5
func TestCompareList(t *testing.T) {
	lists := [][]api.Term{
		nil, leaves("2"), leaves("2", "2"), leaves("2", "2", "2"), leaves("2", "10"), leaves("2", "a"),
		leaves("10"), leaves("10", "2"), leaves("a"), leaves("X"), {fun("f", leaf("a"))}, {fun("f", leaf("a")), leaf("1")}, {fun("f", leaf("b"))}, {fun("a", leaf("a"), leaf("a"))},
	}
	for i := range lists {
		for k := range lists {
			if c := term.CompareList(lists[i], lists[k]); c != sign(i-k) {
				t.Error(lists[i], lists[k], c)
			}
		}
	}
	if term.CompareList(nil, []api.Term{}) != 0 {
		t.Error("empty lists differ")
	}
}

// P1.6
func TestSort(t *testing.T) {
	for _, c := range []struct{ l, want []api.Term }{
		{nil, nil},
		{leaves("b", "10", "b", "2"), leaves("2", "10", "b")},
		{leaves("X", "a", "10", "2", "b"), leaves("2", "10", "a", "b", "X")},
		{leaves("a", "a", "a"), leaves("a")},
		{[]api.Term{fun("f", leaf("b")), leaf("f"), fun("f", leaf("a")), fun("f", leaf("b"))}, []api.Term{leaf("f"), fun("f", leaf("a")), fun("f", leaf("b"))}},
	} {
		if got := term.Sort(c.l); !equalLists(got, c.want) {
			t.Error(c.l, got, c.want)
		}
	}
	want := ascending()
	for step := 1; step < len(want); step++ {
		var l []api.Term
		for i := range 3 * len(want) { // with repetitions, in many orders
			l = append(l, want[(i*step+i/len(want))%len(want)])
		}
		l = append(l, want...)
		if got := term.Sort(l); !equalLists(got, want) {
			t.Error("step", step, got)
		}
	}
}

// scribble overwrites all that a list of terms can reach, its spare capacity too.
func scribble(l []api.Term) {
	l = l[:cap(l)]
	for i := range l {
		scribble(l[i].Args)
		l[i] = api.Term{Name: "scribble"}
	}
}

// R5: no two lists of a result, and no result and argument, share memory.
func TestSortGivesNewMemory(t *testing.T) {
	build := func() []api.Term {
		args := append(make([]api.Term, 0, 9), leaf("a"), fun("g", leaf("b")))
		roomy := api.Term{Name: "c", Args: make([]api.Term, 0, 3)}
		return append(make([]api.Term, 0, 9), api.Term{Name: "h", Args: args}, api.Term{Name: "f", Args: args}, roomy, leaf("z"))
	}
	l, untouched := build(), build()
	sorted := term.Sort(l)
	if !equalLists(l, untouched) {
		t.Error("the argument has changed:", l)
	}
	want := slices.Clone(sorted)
	scribble(l)
	if len(sorted) != 4 || sorted[2].Name != "f" || sorted[2].Args[1].Args[0].Name != "b" || !equalLists(sorted, want) {
		t.Error("the result shares memory with the argument:", sorted)
	}
	l = build()
	sorted = term.Sort(l)
	scribble(sorted[2].Args)
	if sorted[3].Args[1].Args[0].Name != "b" || sorted[3].Args[0].Name != "a" {
		t.Error("two lists of the result share memory:", sorted)
	}
	scribble(sorted)
	if !equalLists(l, untouched) || cap(l[2].Args) != 3 || l[2].Args[:3][0].Name != "" {
		t.Error("the argument shares memory with the result:", l)
	}
}

// P1.6
func TestFind(t *testing.T) {
	l := ascending()
	for i, x := range l {
		if term.Find(l, x) != i {
			t.Error(term.Text(x), term.Find(l, x))
		}
		without := slices.Delete(slices.Clone(l), i, i+1)
		if k := term.Find(without, x); k != -1 {
			t.Error(term.Text(x), "found at", k)
		}
	}
	if term.Find(nil, leaf("a")) != -1 || term.Find(leaves("a"), api.Term{Name: "a", Args: []api.Term{}}) != 0 {
		t.Error("short lists")
	}
}

// P1.6: lists that are not ascending
func TestFindInAnyList(t *testing.T) {
	pool := leaves("1", "a", "b", "X", "a")
	for code := range 5 * 5 * 5 * 5 * 5 {
		var l []api.Term
		for n := code; n > 0; n /= 5 {
			l = append(l, pool[n%5])
		}
		for _, x := range pool {
			if i := term.Find(l, x); i != -1 && (i < 0 || i >= len(l) || !equal(l[i], x)) {
				t.Fatal(l, x, i)
			}
		}
	}
}

package depend_test

import (
	"fmt"
	"slices"
	"testing"

	"gameplayer/api"
	"gameplayer/depend"
)

// R5: arguments are not modified, nor is their spare capacity.
func TestArgumentsStay(t *testing.T) {
	rules := append(make([]api.Rule, 0, 9), odd()...)
	rules[0].Body = append(make([]api.Literal, 0, 9), rules[0].Body...)
	depend.Relations(rules)
	depend.Heads(rules)
	depend.Edges(rules)
	if got, want := fmt.Sprint(rules, rules[:9][4:], rules[0].Body[:9][3:]), fmt.Sprint(odd(), make([]api.Rule, 5), make([]api.Literal, 6)); got != want {
		t.Error(got)
	}
	text := "z-y y!z c-b b-a z-a c-b"
	l := append(make([]api.Edge, 0, 9), edges(text)...)
	names := append(make([]string, 0, 9), words("z b a z y c b")...)
	depend.Reach(l, "z")
	depend.Recursive(l, "z")
	depend.Groups(l, names)
	if !slices.Equal(l[:9], append(edges(text), make([]api.Edge, 3)...)) || !slices.Equal(names[:9], append(words("z b a z y c b"), "", "")) {
		t.Error(l, names)
	}
}

// R5: no two lists of a result share memory.
func TestGroupsAreNewMemory(t *testing.T) {
	list := depend.Groups(edges("a-b b-a c-d d-c e-f"), words("a b c d e f"))
	want := groups("a b | c d | f | e")
	for i, g := range list {
		if !equalGroups(list[i:], want[i:]) {
			t.Fatal(list)
		}
		for k := range g[:cap(g)] {
			g[:cap(g)][k] = "scribble"
		}
	}
}

// chain are the edges from each of the names to the next one.
func chain(names []string) []api.Edge {
	var l []api.Edge
	for i, s := range names[1:] {
		l = append(l, api.Edge{From: names[i], To: s, Not: i%2 == 0})
	}
	return l
}

// R1: dependencies that are long, in both directions, and closed to a circle
func TestLongChains(t *testing.T) {
	var names []string
	for i := range 1 << 18 {
		names = append(names, fmt.Sprintf("n%06d", i))
	}
	backwards := slices.Clone(names)
	slices.Reverse(backwards)
	l := chain(names)
	if got := depend.Reach(l, names[0]); !slices.Equal(got, names[1:]) || depend.Recursive(l, names[0]) {
		t.Error("Reach of a chain")
	}
	first := func(list [][]string) []string {
		var all []string
		for _, g := range list {
			all = append(all, g[0])
		}
		return all
	}
	if got := depend.Groups(l, names); !slices.Equal(first(got), backwards) {
		t.Error("Groups of a chain")
	}
	if got := depend.Groups(chain(backwards), names); !slices.Equal(first(got), names) {
		t.Error("Groups of a chain backwards")
	}
	circle := append(l, api.Edge{From: backwards[0], To: names[0]})
	if got := depend.Groups(circle, backwards); len(got) != 1 || !slices.Equal(got[0], names) {
		t.Error("Groups of a circle")
	}
	if got := depend.Reach(circle, names[9]); !slices.Equal(got, names) || !depend.Recursive(circle, names[9]) {
		t.Error("Reach of a circle")
	}
}

// R1: many groups that wait for the same ones
func TestManyEdges(t *testing.T) {
	var names []string
	var l []api.Edge
	for i := range 600 {
		names = append(names, fmt.Sprintf("n%03d", i))
		for k := range i {
			l = append(l, api.Edge{From: names[k], To: names[i]})
		}
	}
	got := slices.Concat(depend.Groups(l, names)...)
	slices.Reverse(got)
	if !slices.Equal(got, names) {
		t.Error(got)
	}
}

package depend_test

import (
	"slices"
	"strings"
	"testing"

	"gameplayer/api"
	"gameplayer/depend"
	"gameplayer/parser"
)

// read reads a description.
func read(s string) []api.Rule {
	l, _, err := parser.Parse(s)
	if err != api.OK {
		panic(s)
	}
	return l
}

// rule makes a rule of relations without arguments; a literal that begins with - is negated.
func rule(head string, body ...string) api.Rule {
	r := api.Rule{Head: api.Term{Name: head}}
	for _, s := range body {
		name, not := strings.CutPrefix(s, "-")
		r.Body = append(r.Body, api.Literal{Not: not, Atom: api.Term{Name: name}})
	}
	return r
}

// odd are rules that no text has.
func odd() []api.Rule {
	return []api.Rule{
		rule("X", "", "-9", "not"),
		rule("", "\xff", "-", "distinct"),
		rule("distinct", "a", "-b", "c"),
		{Head: api.Term{Name: "p", Args: make([]api.Term, 9)}, Body: []api.Literal{{Atom: api.Term{Name: "X", Args: []api.Term{{Name: "inner"}}}}}},
	}
}

// edges reads edges such as p-q and, negated, p!q.
func edges(s string) []api.Edge {
	var l []api.Edge
	for _, w := range strings.Fields(s) {
		from, to, positive := strings.Cut(w, "-")
		if !positive {
			from, to, _ = strings.Cut(w, "!")
		}
		l = append(l, api.Edge{From: from, To: to, Not: !positive})
	}
	return l
}

func words(s string) []string { return strings.Fields(s) }

// P9.1
func TestRelationsAndHeads(t *testing.T) {
	for _, c := range []struct{ text, relations, heads string }{
		{"", "", ""},
		{"p.", "p", "p"},
		{"p if q and not r. p if distinct(a, b). q if p.", "p q r", "p q"},
		{"p(q, f(r)) if s(t(X), X).", "p s", "p"},
		{"z if y and not x. y if not distinct(a, b) and w. b. a. b.", "a b w x y z", "a b y z"},
		{"p if p(X).", "p", "p"},
		{"role(x). legal(x, m) if true(t) and does(x, m) and a10. a2 if not a1.", "a1 a10 a2 does legal role true", "a2 legal role"},
	} {
		l := read(c.text)
		if got := depend.Relations(l); !slices.Equal(got, words(c.relations)) {
			t.Errorf("Relations(%s) is %q", c.text, got)
		}
		if got := depend.Heads(l); !slices.Equal(got, words(c.heads)) {
			t.Errorf("Heads(%s) is %q", c.text, got)
		}
	}
}

// P9.1: rules that are not valid; a rule with the head distinct has relations in its literals
func TestRelationsOfAnyRules(t *testing.T) {
	if got := depend.Relations(odd()); !slices.Equal(got, []string{"", "9", "X", "a", "b", "c", "not", "p", "\xff"}) {
		t.Errorf("%q", got)
	}
	if got := depend.Heads(odd()); !slices.Equal(got, []string{"", "X", "p"}) {
		t.Errorf("%q", got)
	}
	if got := depend.Heads([]api.Rule{rule("distinct", "a")}); len(got) != 0 {
		t.Errorf("%q", got)
	}
}

// P9.2
func TestEdges(t *testing.T) {
	for _, c := range []struct{ text, want string }{
		{"", ""},
		{"p.", ""},
		{"p if q and not r. p if distinct(a, b). q if p.", "p-q p!r q-p"},
		{"p if not q and q and not q. p if q.", "p-q p!q"},
		{"p if not q. p if r. p if q.", "p-q p!q p-r"},
		{"p if not r and q. p if not distinct(a, X) and s. a if p.", "a-p p-q p!r p-s"},
		{"p(X) if p(f(X)) and not p(a).", "p-p p!p"},
		{"b if a. a10 if b. a2 if b. a if b2 and b10 and b.", "a-b a-b10 a-b2 a10-b a2-b b-a"},
	} {
		if got := depend.Edges(read(c.text)); !slices.Equal(got, edges(c.want)) {
			t.Errorf("Edges(%s) is %v", c.text, got)
		}
	}
}

// P9.2: rules that are not valid
func TestEdgesOfAnyRules(t *testing.T) {
	want := []api.Edge{{From: "", To: "", Not: true}, {From: "", To: "\xff"}, {From: "X", To: ""}, {From: "X", To: "9", Not: true}, {From: "X", To: "not"}, {From: "p", To: "X"}}
	if got := depend.Edges(odd()); !slices.Equal(got, want) {
		t.Errorf("%v", got)
	}
}

// P9.3
func TestReachAndRecursive(t *testing.T) {
	for _, c := range []struct{ edges, from, want string }{
		{"", "p", ""},
		{"p-q p!r q-p", "p", "p q r"},
		{"p-q p!r q-p", "q", "p q r"},
		{"p-q p!r q-p", "r", ""},
		{"p-q p!r q-p", "s", ""},
		{"p-p", "p", "p"},
		{"p!p p!p", "p", "p"},
		{"q-r p-q", "p", "q r"},
		{"p-q p-q q!r q-r", "p", "q r"},
		{"d-a c-d b-c a-b x-a", "x", "a b c d"},
		{"d-a c-d b-c a-b x-a", "b", "a b c d"},
		{"p-a2 a2-a10 a10-b", "p", "a10 a2 b"},
		{"p-q r-p r-s", "p", "q"},
		{"p-distinct distinct-q", "p", "distinct q"}, // edges are any edges, also some that Edges does not return
	} {
		got := depend.Reach(edges(c.edges), c.from)
		if !slices.Equal(got, words(c.want)) {
			t.Errorf("Reach(%s, %s) is %q", c.edges, c.from, got)
		}
		if again := depend.Recursive(edges(c.edges), c.from); again != slices.Contains(words(c.want), c.from) {
			t.Errorf("Recursive(%s, %s) is %v", c.edges, c.from, again)
		}
	}
	empty := []api.Edge{{From: "", To: "X"}, {From: "X", To: "\xff", Not: true}, {From: "\xff", To: ""}}
	if got := depend.Reach(empty, ""); !slices.Equal(got, []string{"", "X", "\xff"}) || !depend.Recursive(empty, "") {
		t.Errorf("%q", got)
	}
	if depend.Recursive(nil, "") || len(depend.Reach(nil, "")) != 0 {
		t.Error("no edges")
	}
}

// groups reads groups that are divided by bars.
func groups(s string) [][]string {
	var l [][]string
	for part := range strings.SplitSeq(s, "|") {
		if g := words(part); len(g) > 0 {
			l = append(l, g)
		}
	}
	return l
}

func equalGroups(a, b [][]string) bool { return slices.EqualFunc(a, b, slices.Equal[[]string]) }

// P9.4
func TestGroups(t *testing.T) {
	for _, c := range []struct{ edges, names, want string }{
		{"", "", ""},
		{"p-q q-p", "", ""},
		{"p-q p!r q-p", "p q r", "r | p q"},
		{"p-q p!r q-p", "p r", "r | p"},
		{"", "b a b", "a | b"},
		{"p-q q-p", "q p q p", "p q"},
		{"p-p p!p", "p", "p"},
		{"a-b b-c c-a", "c b a", "a b c"},
		{"a-b b-c c-a", "c a", "a | c"}, // c depends on a directly
		{"a-b b-c c-d", "a b c d", "d | c | b | a"},
		{"a-z", "a b z", "b | z | a"},           // b comes before z, though a waits for z
		{"a-z c-a", "a b c z", "b | z | a | c"}, // a is less than c, and both come after z
		{"a-y b-x x-b", "a b x y", "b x | y | a"},
		{"b-d d-b a-d", "a b c d", "b d | a | c"}, // when b and d are listed, a is less than c
		{"a-x a-y", "a x y z", "x | y | a | z"},   // a waits for two
		{"a-y a-x b-y", "a b x y z", "x | y | a | b | z"},
		{"a-b b-a c-d d-c a-c", "a b c d", "c d | a b"},
		{"a-b b-a c-d d-c a!c d!b", "a b c d", "a b c d"}, // negated edges connect as others
		{"a-b b-c c-b c-d d-e e-d x-x", "e d c b a x", "d e | b c | a | x"},
		{"a-m m-b b-m", "a b", "a | b"}, // not by m
		{"a10-a2 p-a10", "p a2 a10", "a2 | a10 | p"},
	} {
		if got := depend.Groups(edges(c.edges), words(c.names)); !equalGroups(got, groups(c.want)) {
			t.Errorf("Groups(%s, %s) is %q, not %s", c.edges, c.names, got, c.want)
		}
	}
}

// P9.4: names that are none
func TestGroupsOfAnyNames(t *testing.T) {
	e := []api.Edge{{From: "", To: "X", Not: true}, {From: "X", To: ""}, {From: "distinct", To: "\xff"}, {From: "", To: "distinct"}}
	got := depend.Groups(e, []string{"X", "\xff", "", "distinct", "X"})
	if want := [][]string{{"\xff"}, {"distinct"}, {"", "X"}}; !equalGroups(got, want) {
		t.Errorf("%q", got)
	}
}

package strata_test

import (
	"math"
	"slices"
	"strconv"
	"strings"
	"testing"

	"gameplayer/api"
	"gameplayer/parser"
	"gameplayer/strata"
)

// read reads a description.
func read(s string) []api.Rule {
	l, _, err := parser.Parse(s)
	if err != api.OK {
		panic(s)
	}
	return l
}

// rule makes a rule of relations without arguments; a literal that begins with - is negated.
func rule(head string, body ...string) api.Rule {
	r := api.Rule{Head: api.Term{Name: head}}
	for _, s := range body {
		name, not := strings.CutPrefix(s, "-")
		r.Body = append(r.Body, api.Literal{Not: not, Atom: api.Term{Name: name}})
	}
	return r
}

// levels pairs names with their levels.
func levels(s string) []api.Level {
	var l []api.Level
	for _, w := range strings.Fields(s) {
		name, digits, _ := strings.Cut(w, ":")
		n, err := strconv.Atoi(digits)
		if err != nil {
			panic(s)
		}
		l = append(l, api.Level{Name: name, Level: n})
	}
	return l
}

// example is a description and what the functions return for it: it has levels or a cycle.
type example struct {
	text, levels string
	order        [][]int
	cycle        string
}

func examples() []example {
	return []example{
		{"", "", nil, ""},
		{"p.", "p:0", [][]int{{0}}, ""},
		{"p if q and not r. r if s.", "p:1 q:0 r:0 s:0", [][]int{{1}, {0}}, ""},
		{"p if not q. q if not r.", "p:2 q:1 r:0", [][]int{{}, {1}, {0}}, ""},
		{"p if p and q. q if p.", "p:0 q:0", [][]int{{0, 1}}, ""},
		{"p if not distinct(a, b). q if distinct(a, b) and not p.", "p:0 q:1", [][]int{{0}, {1}}, ""},
		{"a if b. b if c and not d. c if not e. d. e if not f. x.", "a:2 b:2 c:2 d:0 e:1 f:0 x:0", [][]int{{3, 5}, {4}, {0, 1, 2}}, ""},
		{"p if q and not q.", "p:1 q:0", [][]int{{}, {0}}, ""},
		{"p if q. q if p. p if not z. z if not y. w if q.", "p:2 q:2 w:2 y:0 z:1", [][]int{{}, {3}, {0, 1, 2, 4}}, ""},
		{"p if not q. p if r. r if not s. s if not t. t. p.", "p:2 q:0 r:2 s:1 t:0", [][]int{{4}, {3}, {0, 1, 2, 5}}, ""},
		{"a10 if not a2. a2(X) if not a(X, a3).", "a:0 a10:2 a2:1", [][]int{{}, {1}, {0}}, ""},
		{"p if not q. q if p.", "", nil, "p q"},
		{"a if not a. b if not c. c if not b.", "", nil, "a"},
		{"b if not c. c if not b. d if not c.", "", nil, "b c"},
		{"a if b. b if not c. c if a.", "", nil, "b c a"},
		{"q if p. p if q. p if not z. q if y. y if not p.", "", nil, "y p q"},
		{"z if not z. a if not b. b if a.", "", nil, "z"}, // the shortest one
		{"b if not b. a if not a.", "", nil, "a"},
		{"a if b. b if not a. c if not d. d if c.", "", nil, "b a"}, // the negated edge comes first
		{"a if not b. a if not c. b if d. c if d. d if a.", "", nil, "a b d"},
		{"a if not b. b if d. b if c. c if a. d if a.", "", nil, "a b c"},
		{"a if b and not c. b if a. c if d. d if a.", "", nil, "a c d"}, // no negation leads to b
		{"a if not b and b. b if not a.", "", nil, "a b"},
		{"a if b. b if c and not d. c if a. d if e. e if c.", "", nil, "b d e c a"},
		{"a if not c. c if b and d. b if e. e if a. d if e. a if z.", "", nil, "a c b e"},
		{"a if not b and not c. b if e. c if f. e if g. f if a. g if a.", "", nil, "a c f"},
		{"a10 if not b. a2 if not b. b if a2. b if a10.", "", nil, "a10 b"},
		{"x if y. y if x. x if not a. a if not b. b if z and a.", "", nil, "a b"},
		{"p(a) if not p(b).", "", nil, "p"}, // arguments do not matter
	}
}

// P10.1, P10.2, P10.3, P10.6
func TestExamples(t *testing.T) {
	for _, c := range examples() {
		want, e := levels(c.levels), api.OK
		if c.cycle != "" {
			e = api.ErrCycle
		}
		l := read(c.text)
		if got, f := strata.Levels(l); !slices.Equal(got, want) || f != e {
			t.Errorf("Levels(%s) is %v, %d, not %v, %d", c.text, got, f, want, e)
		}
		if got, f := strata.Order(l); !equalLists(got, c.order) || f != e {
			t.Errorf("Order(%s) is %v, %d, not %v, %d", c.text, got, f, c.order, e)
		}
		if got := strata.Cycle(l); !slices.Equal(got, strings.Fields(c.cycle)) {
			t.Errorf("Cycle(%s) is %q, not %s", c.text, got, c.cycle)
		}
	}
}

func equalLists(a, b [][]int) bool { return slices.EqualFunc(a, b, slices.Equal[[]int]) }

// P10.1, P10.2, P10.3: rules that are not valid, and those whose head is distinct
func TestAnyRules(t *testing.T) {
	for _, c := range []struct {
		l      []api.Rule
		levels []api.Level
		order  [][]int
		cycle  []string
	}{
		{[]api.Rule{rule("distinct", "-s"), rule("distinct")}, levels("s:0"), [][]int{{}}, nil},
		{[]api.Rule{rule("distinct", "-distinct")}, nil, nil, nil},
		{[]api.Rule{rule("p", "-distinct"), rule("distinct", "-p"), rule("q", "-p")}, levels("p:0 q:1"), [][]int{{0}, {2}}, nil},
		{[]api.Rule{rule("X", "-", "9"), rule("", "\xff")}, []api.Level{{Name: ""}, {Name: "9"}, {Name: "X", Level: 1}, {Name: "\xff"}}, [][]int{{1}, {0}}, nil},
		{[]api.Rule{rule("", "-")}, nil, nil, []string{""}},
		{[]api.Rule{rule("", "X"), rule("X", "-\xff"), rule("\xff", "")}, nil, nil, []string{"X", "\xff", ""}},
	} {
		e := api.OK
		if c.cycle != nil {
			e = api.ErrCycle
		}
		if got, f := strata.Levels(c.l); !slices.Equal(got, c.levels) || f != e {
			t.Errorf("Levels(%v) is %v, %d", c.l, got, f)
		}
		if got, f := strata.Order(c.l); !equalLists(got, c.order) || f != e {
			t.Errorf("Order(%v) is %v, %d", c.l, got, f)
		}
		if got := strata.Cycle(c.l); !slices.Equal(got, c.cycle) {
			t.Errorf("Cycle(%v) is %q", c.l, got)
		}
	}
}

// P10.1
func TestOf(t *testing.T) {
	for _, c := range []struct {
		levels, name string
		want         int
	}{
		{"", "p", -1},
		{"p:1 q:0", "p", 1},
		{"p:1 q:0", "q", 0},
		{"p:1 q:0", "", -1},
		{"p:1 q:0", "r", -1},
		{"q:3 p:2 p:4 q:5", "p", 2},
		{"q:3 p:2 p:4 q:5", "q", 3},
		{"distinct:7", "distinct", 7},
		{"p:-5 p:1", "p", -5},
		{":8", "", 8},
	} {
		if got := strata.Of(levels(c.levels), c.name); got != c.want {
			t.Errorf("Of(%s, %s) is %d", c.levels, c.name, got)
		}
	}
}

// P10.4
func TestValid(t *testing.T) {
	for _, c := range []struct {
		text, levels string
		want         bool
	}{
		{"", "", true},
		{"", "a:0 b:7", true},
		{"", "b:0 a:0", false},
		{"", "a:0 a:0", false},
		{"", "a:-1", false},
		{"p if not q.", "p:5 q:0", true},
		{"p if not q.", "p:1 q:0", true},
		{"p if not q.", "p:0 q:0", false},
		{"p if not q.", "p:4 q:5", false},
		{"p if not q.", "p:1", false},
		{"p if not q.", "q:0", false},
		{"p if not q.", "", false},
		{"p if not q.", "p:1 q:-1", false},
		{"p if not q.", "q:0 p:1", false},
		{"p if not q.", "p:1 p:1 q:0", false},
		{"p if not q.", "p:1 q:0 q:0", false},
		{"p if not q.", "a:9 distinct:3 p:1 p2:0 q:0 z:0", true},
		{"p if not q.", "p:1 q:0 z:-1", false},
		{"p if q.", "p:0 q:0", true},
		{"p if q.", "p:3 q:2", true},
		{"p if q.", "p:2 q:3", false},
		{"p if q and not q.", "p:2 q:2", false},
		{"p if not q and q.", "p:3 q:2", true},
		{"p if p.", "p:4", true},
		{"p if not p.", "p:4", false},
		{"p if not q. q if p.", "p:1 q:0", false},
		{"p if not q. q if p.", "p:1 q:1", false},
		{"p if not distinct(a, b).", "p:0", true},
		{"p if not distinct(a, b).", "distinct:5 p:0", true},
		{"a10 if not a2.", "a10:1 a2:0", true},
		{"a10 if not a2.", "a2:0 a10:1", false},
		{"p if not q.", ":0 p:1 q:0", true},
	} {
		if got := strata.Valid(read(c.text), levels(c.levels)); got != c.want {
			t.Errorf("Valid(%s, %s) is %v", c.text, c.levels, got)
		}
	}
}

// P10.4: numbers at the ends of their range (R7)
func TestValidWithGreatLevels(t *testing.T) {
	list := func(p, q int) []api.Level { return []api.Level{{Name: "p", Level: p}, {Name: "q", Level: q}} }
	l := read("p if not q.")
	if !strata.Valid(l, list(math.MaxInt, math.MaxInt-1)) || strata.Valid(l, list(math.MaxInt, math.MaxInt)) || strata.Valid(l, list(0, math.MaxInt)) || strata.Valid(l, list(0, math.MinInt)) || strata.Valid(l, list(math.MinInt, 0)) {
		t.Error("p is to be greater than q, and q not negative")
	}
}

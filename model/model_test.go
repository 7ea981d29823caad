package model_test

import (
	"math"
	"slices"
	"strconv"
	"strings"
	"testing"

	"gameplayer/api"
	"gameplayer/ground"
	"gameplayer/model"
	"gameplayer/parser"
)

// numbers reads numbers that are divided by commas.
func numbers(s string) []int {
	var l []int
	for w := range strings.SplitSeq(s, ",") {
		if n, err := strconv.Atoi(w); err == nil {
			l = append(l, n)
		}
	}
	return l
}

// description reads atoms, and ground rules as in "2:0,1/4 3:": the head, Pos and, after a slash, Neg.
func description(atoms, rules string) api.Ground {
	var g api.Ground
	l, _, e := parser.Terms(atoms)
	if e != api.OK {
		panic(atoms)
	}
	g.Atoms = l
	for w := range strings.FieldsSeq(rules) {
		head, body, _ := strings.Cut(w, ":")
		pos, neg, _ := strings.Cut(body, "/")
		g.Rules = append(g.Rules, api.GroundRule{Head: numbers(head)[0], Pos: numbers(pos), Neg: numbers(neg)})
	}
	return g
}

// P14.1
func TestStrata(t *testing.T) {
	for _, c := range []struct {
		atoms, rules string
		want         string // empty for a cycle
	}{
		{"a, b, c, d", "1:0 2:1 3:2/0", "0,0,0,1"},
		{"a", "", "0"},
		{"a, b, c", "0: 1:", "0,0,0"},
		{"a, b, c", "0:1 1:2 2:0", "0,0,0"},
		{"a, b, c", "0:/1 1:/2", "2,1,0"},
		{"a, b, c", "0:/1 1:2", "1,0,0"},
		{"a, b, c", "0:1 1:/2", "1,1,0"},
		{"a, b, c, d", "0:1,3 1:/2", "1,1,0,0"},
		{"a, b, c, d", "0:/1 0:/3 1:/2 3:1", "2,1,0,1"},
		{"a, b, c, d", "1:0/3 2:1/0 3:0", "0,1,1,0"},
		{"a, b, c, d, e, f", "1:/0 2:/1 3:/2 4:/3 5:/4", "0,1,2,3,4,5"},
		{"a, b, c, d, e, f", "0:/5 1:/0 2:/1 3:/2 4:/3", "1,2,3,4,5,0"},
		{"a, b, c, d", "0:1 1:0,2 2:/3", "1,1,1,0"},

		// the strata are those of the relations, and edges lead from and to relations
		{"p(1), p(2), q(1), q(2)", "0:/2", "1,1,0,0"},
		{"p(1), p(2), q(1), q(2)", "0:1,3 1:0", "0,0,0,0"},
		{"r, p(1), p(2), q(1), q(2)", "", "0,0,0,0,0"},
		{"r, p(1), p(2), q(1), q(2)", "0:/2 1:/3", "2,1,1,0,0"},
		{"true(a), true(b), does(x,a), legal(x,a)", "3:0/1", "0,0,0,1"},
		{"p, q, p(1), q(f(a)), p(1,2), q(a,b)", "2:/5", "1,0,1,0,1,0"}, // relations have the same name, whatever their numbers of arguments are
		{"p(1), p(2)", "0:/1", ""},
		{"p(1), p(2)", "0:/0", ""},
		{"p(1), p(2), q(1), q(2)", "0:/2 3:1", ""},
		{"p, p(1), q(1), q(2)", "0:/2 3:1", ""},

		// cycles
		{"a", "0:/0", ""},
		{"a", "0:0/0", ""},
		{"a", "0:0", "0"},
		{"a, b", "0:/1 1:/0", ""},
		{"a, b", "0:/1 1:0", ""},
		{"a, b", "0:/1 0:1 1:0", ""},
		{"a, b", "0:/1 0:1", "1,0"},
		{"a, b", "0:1/1", "1,0"},
		{"a, b, c", "0:1 1:2 2:/0", ""},
		{"a, b, c", "0:1 1:0/2 2:1", ""},
		{"a, b, c", "0:1/2 1:0", "1,1,0"},
	} {
		g := description(c.atoms, c.rules)
		isValid(t, g)
		got, e := model.Strata(g)
		wantError := api.OK
		if c.want == "" {
			wantError = api.ErrCycle
		}
		if !slices.Equal(got, numbers(c.want)) || e != wantError {
			t.Errorf("Strata(%s; %s) is %v, %d, want %s", c.atoms, c.rules, got, e, c.want)
		}
	}
}

// isValid checks that a ground description of a test is valid.
func isValid(t *testing.T, g api.Ground) {
	t.Helper()
	if !ground.Valid(g) {
		t.Errorf("%v is not valid", g)
	}
}

// invalid are ground descriptions that are not valid, some of which have no strata either.
func invalid() []api.Ground {
	return []api.Ground{
		description("b, a", ""),
		description("a, a", "0:/1"),
		description("a, distinct(a,b)", ""),
		description("a, X", ""),
		description("a, b", "1: 0:"),
		description("a, b", "0: 0:"),
		description("a, b", "0:/0 0:1 0:2"),
		description("a, b", "2:/2"),
		description("a, b", "0:/-1"),
		description("a, b", "0:1,0"),
		{Rules: []api.GroundRule{{}}},
		{Atoms: []api.Term{{}}},
	}
}

// P14.1, P14.2, P14.3, P14.4, P14.5: ground descriptions that are not valid
func TestInvalid(t *testing.T) {
	for _, g := range invalid() {
		if l, e := model.Strata(g); len(l) != 0 || e != api.ErrInvalid {
			t.Errorf("Strata(%v) is %v, %d", g, l, e)
		}
		for _, facts := range [][]int{nil, {0}, {5}} {
			all(t, g, facts, []int{-1, 0, 1, 2, 3}, api.ErrInvalid)
		}
	}
}

// all checks that all functions with facts have the same error.
func all(t *testing.T, g api.Ground, facts, atoms []int, want api.Errno) {
	t.Helper()
	if l, e := model.Model(g, facts); len(l) != 0 || e != want {
		t.Errorf("Model(%v, %v) is %v, %d", g, facts, l, e)
	}
	if l, e := model.Ranks(g, facts); len(l) != 0 || e != want {
		t.Errorf("Ranks(%v, %v) is %v, %d", g, facts, l, e)
	}
	for _, atom := range atoms {
		failing(t, g, facts, atom, want)
	}
}

// failing checks that all functions with an atom have the same error, or say that there is nothing.
func failing(t *testing.T, g api.Ground, facts []int, atom int, want api.Errno) {
	t.Helper()
	if is, e := model.Holds(g, facts, atom); is || e != want {
		t.Errorf("Holds(%v, %v, %d) is %v, %d", g, facts, atom, is, e)
	}
	if i, is := model.Why(g, facts, atom); i != 0 || is {
		t.Errorf("Why(%v, %v, %d) is %d, %v", g, facts, atom, i, is)
	}
	if l, is := model.Derivation(g, facts, atom); len(l) != 0 || is {
		t.Errorf("Derivation(%v, %v, %d) is %v, %v", g, facts, atom, l, is)
	}
}

// P14.2, P14.3: the errors, in their order; P14.4, P14.5: nothing where Holds has one
func TestErrors(t *testing.T) {
	chain := description("a, b, c, d", "1:0 2:1 3:2/0")
	cycle := description("a, b, c", "0:/1 1:/0 2:")
	outside := []int{math.MinInt, -2, -1, 4, 5, math.MaxInt}
	for _, facts := range [][]int{{4}, {-1}, {0, 4}, {-1, 0}, {1, 0}, {0, 0}, {0, 2, 1}, {3, 3}, {math.MaxInt}, {math.MinInt, 0}, {0, 1, 2, 3, 4}} {
		all(t, chain, facts, append(outside, 0, 1, 2, 3), api.ErrInvalid)
		all(t, cycle, facts, append(outside, 0, 1, 2), api.ErrInvalid)
	}
	all(t, cycle, []int{3}, []int{3, 0}, api.ErrInvalid)
	for _, facts := range [][]int{nil, {0}, {0, 1}, {2}, {0, 1, 2}} {
		all(t, cycle, facts, []int{0, 1, 2}, api.ErrCycle)
		for _, atom := range append(outside, 3) {
			failing(t, cycle, facts, atom, api.ErrRange)
		}
		for _, atom := range outside {
			failing(t, chain, facts, atom, api.ErrRange)
		}
	}
	failing(t, api.Ground{}, nil, 0, api.ErrRange)
	all(t, api.Ground{}, []int{0}, []int{0}, api.ErrInvalid)
	all(t, api.Ground{}, nil, nil, api.OK)
}

// P14.2, P14.3
func TestRanks(t *testing.T) {
	for _, c := range []struct{ atoms, rules, facts, want string }{
		{"a, b, c, d", "1:0 2:1 3:2/0", "0", "0,1,2,-1"},
		{"a, b, c, d", "1:0 2:1 3:2/0", "1", "-1,0,1,1"},
		{"a, b, c, d", "1:0 2:1 3:2/0", "", "-1,-1,-1,-1"},
		{"a, b, c, d", "1:0 2:1 3:2/0", "0,3", "0,1,2,0"},
		{"a, b, c, d", "1:0 2:1 3:2/0", "2", "-1,-1,0,1"},
		{"a, b, c, d", "1:0 2:1 3:2/0", "0,1,2,3", "0,0,0,0"},
		{"a, b", "0:1 1:0", "", "-1,-1"},
		{"a, b", "0:1 1:0", "0", "0,1"},
		{"a, b", "0:1 1:0", "1", "1,0"},
		{"a, b", "", "1", "-1,0"},
		{"a, b", "0: 1:0", "", "1,2"},
		{"a, b", "0:1 1:", "", "2,1"}, // a round sees what was derived in earlier ones only
		{"a, b", "0: 1:0", "0", "0,1"},
		{"a, b", "0: 1:0", "1", "1,0"}, // what is given stays given
		{"a, b, c, d, e", "0:1 1:2 2:3 3:4 4:", "", "5,4,3,2,1"},
		{"a, b, c, d, e", "0: 1:0 2:1 3:2 4:3", "", "1,2,3,4,5"},
		{"a, b, c, d, e", "0: 1:0 2:0,1 3:0 4:2,3", "", "1,2,3,2,4"},
		{"a, b, c, d, e", "0: 1:0 2:1 3:0 3:2 4:3", "", "1,2,3,2,3"}, // the first of several ways
		{"a, b, c, d, e", "0: 1:0 2:1 3:2 3:4 4:3", "", "1,2,3,4,5"},
		{"a, b, c", "0:0 1:0 2:0,1", "", "-1,-1,-1"},
		{"a, b, c", "2:0,1", "0", "0,-1,-1"},
		{"a, b, c", "2:0,1", "0,1", "0,0,1"},
		{"a, b, c", "2:0 2:1", "1", "-1,0,1"},

		// negations
		{"a, b", "1:/0", "", "-1,1"},
		{"a, b", "1:/0", "0", "0,-1"},
		{"a, b", "1:/0", "0,1", "0,0"},
		{"a, b", "0: 1:/0", "", "1,-1"},
		{"a, b", "0:/1 1:", "", "-1,1"},
		{"a, b", "0:/1 1:1", "", "1,-1"},
		{"a, b, c", "1:/0 2:/1", "", "-1,1,-1"},
		{"a, b, c", "1:/0 2:/1", "0", "0,-1,1"},
		{"a, b, c", "1:/0 2:/1", "1", "-1,0,-1"},
		{"a, b, c", "2:/0,1", "", "-1,-1,1"},
		{"a, b, c", "2:/0,1", "1", "-1,0,-1"},
		{"a, b, c", "2:/0,1", "0", "0,-1,-1"},
		{"a, b, c", "2:0/0", "", "-1,-1,-1"},
		{"a, b, c", "2:0/0", "0", "0,-1,-1"},
		{"a, b, c", "2:0/1", "0", "0,-1,1"},
		{"a, b, c", "2:0/1", "0,1", "0,0,-1"},

		// rounds begin anew in each stratum
		{"a, b, c, d, e", "1:0 2:1 3:2/4", "0", "0,1,2,1,-1"},
		{"a, b, c, d, e", "1:0 2:1 3:2,4 4:2/0", "1", "-1,0,1,2,1"},
		{"a, b, c, d, e", "0:1 1:2 2:3/4", "3", "3,2,1,0,-1"},
		{"a, b, c, d, e, f", "0: 1:0 2:1 3:2/5 4:2,3", "", "1,2,3,1,2,-1"},

		// an atom is of the stratum of its relation
		{"q, p(1), p(2), p(3)", "1: 2:1 3:2/0", "", "-1,1,2,3"},
		{"q, p(1), p(2), p(3)", "1: 2:1/0 3:2", "0", "0,1,-1,-1"},
		{"q, p(1), p(2), r(1), r(2)", "1:/0 2:1,4 3: 4:3", "", "-1,1,2,1,2"},
		{"r, p(1), q(1), q(2), q(3)", "0:1,4 1:/2 2: 3: 4:3", "", "-1,-1,1,1,2"},
		{"r, p(1), q(1), q(2), q(3)", "0:1,4 1:/2 3: 4:3", "", "2,1,-1,1,2"},
	} {
		g := description(c.atoms, c.rules)
		isValid(t, g)
		want, facts := numbers(c.want), numbers(c.facts)
		if got, e := model.Ranks(g, facts); !slices.Equal(got, want) || e != api.OK {
			t.Errorf("Ranks(%s; %s; %s) is %v, %d, want %s", c.atoms, c.rules, c.facts, got, e, c.want)
		}
		var hold []int
		for i, rank := range want {
			if rank >= 0 {
				hold = append(hold, i)
			}
			if is, e := model.Holds(g, facts, i); is != (rank >= 0) || e != api.OK {
				t.Errorf("Holds(%s; %s; %s; %d) is %v, %d", c.atoms, c.rules, c.facts, i, is, e)
			}
		}
		if got, e := model.Model(g, facts); !slices.Equal(got, hold) || e != api.OK {
			t.Errorf("Model(%s; %s; %s) is %v, %d, want %v", c.atoms, c.rules, c.facts, got, e, hold)
		}
	}
}

// P14.4, P14.5
func TestWhyAndDerivation(t *testing.T) {
	for _, c := range []struct {
		atoms, rules, facts string
		atom                int
		why                 int // -1 for none
		derivation          string
		holds               bool
	}{
		{"a, b, c, d", "1:0 2:1 3:2/0", "1", 3, 2, "1,2", true},
		{"a, b, c, d", "1:0 2:1 3:2/0", "1", 2, 1, "1", true},
		{"a, b, c, d", "1:0 2:1 3:2/0", "1", 1, -1, "", true}, // given, although there is a rule
		{"a, b, c, d", "1:0 2:1 3:2/0", "0,1", 1, -1, "", true},
		{"a, b, c, d", "1:0 2:1 3:2/0", "1", 0, -1, "", false},
		{"a, b, c, d", "1:0 2:1 3:2/0", "0", 2, 1, "0,1", true},
		{"a, b, c, d", "1:0 2:1 3:2/0", "0", 3, -1, "", false},
		{"a, b", "0: 0:1 1:", "", 0, 0, "0", true},
		{"a, b", "0: 0:1 1:", "0", 0, -1, "", true},
		{"a, b", "0:1 1:0", "", 0, -1, "", false},

		// the first rule that gives the rank
		{"a, b, c", "2: 2:0 2:1", "0,1", 2, 0, "0", true},
		{"a, b, c", "2:0 2:1", "1", 2, 1, "1", true},
		{"a, b, c", "2:0 2:1", "0,1", 2, 0, "0", true},
		{"a, b, c", "0:1 0:2 1:2 2:", "", 0, 1, "3,1", true}, // the first one fires later
		{"a, b, c, d", "0:1 0:2 1:2 2: 3:0", "", 3, 4, "3,1,4", true},
		{"a, b, c, d", "0:1,2 0:1,3 0:3 1: 2:1 3:1", "", 0, 0, "3,4,0", true}, // all give the rank
		{"a, b, c", "2:/0 2:/1", "0", 2, 1, "1", true},
		{"a, b, c", "2:/0 2:/1", "", 2, 0, "0", true},
		{"a, b, c, d", "3:0/1 3:0/2", "0,1", 3, 1, "1", true},
		{"a, b, c, d", "3:0/1 3:0/2", "0,1,2", 3, -1, "", false},
		{"r, p(1), p(2), q(1), q(2)", "1:3 1:4/0 3:4 4:", "", 1, 0, "3,2,0", true}, // q is of a lower stratum, so that its ranks do not matter
		{"r, p(1), p(2), q(1), q(2)", "1:2 1:3 2:4/0 3:4 4:", "", 1, 1, "4,3,1", true},
		{"a, b, c", "0:0 0:1 0:2 1: 2:", "", 0, 1, "3,1", true},

		// the rules of the atoms of Pos in their order, each rule once
		{"a, b, c, d", "1:0 2:0,1 3:1,2", "0", 3, 2, "0,1,2", true},
		{"a, b, c, d", "0:1,2,3 1:3 2:1,3 3:", "", 0, 0, "3,1,2,0", true},
		{"a, b, c, d", "0:1,2 1: 2: 3:0", "", 3, 3, "1,2,0,3", true},
		{"a, b, c, d", "0:1,2 1:2 2: 3:0,1,2", "", 3, 3, "2,1,0,3", true},
		{"a, b, c, d, e", "0:1,2,3 1:4 2:4 3:4 4:", "", 0, 0, "4,1,2,3,0", true},
		{"a, b, c, d, e", "0:1,2,3 1:4 2:4 3:4 4:", "2", 0, 0, "4,1,3,0", true},
		{"a, b, c, d, e", "0:3,4 1: 2: 3:2 4:1,2,3", "", 0, 0, "2,3,1,4,0", true},
		{"a, b, c, d, e", "0:1,4 1:3/2 3: 4:3", "", 0, 0, "2,1,3,0", true}, // the atoms of Neg have no part
		{"a, b, c, d, e", "0:1/3 1:2 2: 4:", "", 0, 0, "2,1,0", true},
	} {
		g := description(c.atoms, c.rules)
		isValid(t, g)
		facts := numbers(c.facts)
		if i, is := model.Why(g, facts, c.atom); is != (c.why >= 0) || i != max(c.why, 0) {
			t.Errorf("Why(%s; %s; %s; %d) is %d, %v, want %d", c.atoms, c.rules, c.facts, c.atom, i, is, c.why)
		}
		if l, is := model.Derivation(g, facts, c.atom); is != c.holds || !slices.Equal(l, numbers(c.derivation)) {
			t.Errorf("Derivation(%s; %s; %s; %d) is %v, %v, want %s", c.atoms, c.rules, c.facts, c.atom, l, is, c.derivation)
		}
		if is, e := model.Holds(g, facts, c.atom); is != c.holds || e != api.OK {
			t.Errorf("Holds(%s; %s; %s; %d) is %v, %d", c.atoms, c.rules, c.facts, c.atom, is, e)
		}
	}
}

package compile_test

import (
	"fmt"
	"math/rand/v2"
	"slices"
	"strings"
	"testing"

	"gameplayer/api"
	"gameplayer/compile"
	"gameplayer/model"
	"gameplayer/network"
	"gameplayer/sample"
)

var x = sample.Terms("x")

// P21.2: the size
func TestGates(t *testing.T) {
	if n, e := compile.Gates(example(), x, false); n != 34 || e != api.OK {
		t.Error(n, e)
	}
	for _, c := range []struct {
		atoms, rules string
		want         int
	}{
		{"", "", 2},
		{"a", "", 2 + 2 + 1},
		{"true(a), does(x,a)", "", 2 + 4 + 2},
		{"a", "a.", 2 + 2 + 2},
		{"a", "a if a.", 2 + 2 + 2},
		{"a", "a. a if a.", 2 + 2 + 3},
		{"a, b, c", "a. b if a. b if not c. b if a and c.", 2 + 6 + 2 + 4 + 1},
		{"a, b", "a if b. b if a.", 2 + 4 + 2*4},
		{"a, b", "a if b. b if a. a. b. a if a and b.", 2 + 4 + 2*7},
		{"a, b, c, s", "a if b. b if c. c if a. a if s.", 2 + 8 + 1 + 3*7},
		{"a, b, c, d, e", "a if b. b if a. c if d and not a. d if c. c. e if not c and not d. e if d.", 2 + 10 + 2*4 + 2*5 + 3},
		{"true(a,b), does(a), does(a,b,c)", "true(a,b). does(a) if true(a,b). does(a,b,c) if does(a) and not true(a,b).", 2 + 6 + 2 + 2 + 2},
	} {
		for _, roles := range []string{"x", "chance, a, b-1, z"} {
			if n, e := compile.Gates(sample.Ground(c.atoms, c.rules), sample.Terms(roles), true); n != c.want || e != api.OK {
				t.Errorf("%s; %s: %d, %d, want %d", c.atoms, c.rules, n, e, c.want)
			}
		}
	}
}

// sized computes the size from the groups by the definition.
func sized(g api.Ground) int {
	n := 2 + 2*len(g.Atoms)
	for _, group := range chosen(g) {
		k, r, recursive := len(group), 0, false
		for _, i := range group {
			recursive = recursive || dependent(g, i)[i]
			for _, x := range g.Rules {
				if x.Head == i {
					r++
				}
			}
		}
		if recursive {
			n += k * (k + r)
		} else {
			n += k + r
		}
	}
	return n
}

// P21.2: comparison with the definition. Descriptions without strata have no size.
func TestGatesAgainstDefinition(t *testing.T) {
	r := rand.New(rand.NewPCG(21, 2))
	errors := map[api.Errno]int{}
	for range 2000 {
		g := anyDependencies(r, 1+r.IntN(12))
		_, want := model.Strata(g)
		n, e := compile.Gates(g, x, false)
		if e != want || e == api.OK && n != sized(g) || e != api.OK && n != 0 {
			t.Fatalf("%v: %d, %d, want %d, %d", g, n, e, sized(g), want)
		}
		errors[e]++
	}
	if errors[api.OK] < 300 || errors[api.ErrCycle] < 300 {
		t.Error(errors)
	}
}

// ring makes a ground description of a ring of percepts, with further rules, and of bases, of which every rule requires one.
func ring(percepts, more, bases int) api.Ground {
	var g api.Ground
	for i := range bases {
		g.Atoms = append(g.Atoms, api.Term{Name: "true", Args: []api.Term{{Name: fmt.Sprint(i)}}})
	}
	for i := range percepts {
		g.Atoms = append(g.Atoms, api.Term{Name: "sees", Args: []api.Term{{Name: "x"}, {Name: fmt.Sprint(i)}}})
	}
	for i := range percepts + more {
		from, step := i%percepts, i/percepts+1
		x := api.GroundRule{Head: bases + from, Pos: []int{bases + (from+step)%percepts}}
		if bases > 0 {
			x.Pos = append(x.Pos, i%bases)
		}
		g.Rules = append(g.Rules, x)
	}
	return sample.SortGround(g)
}

// P21.2, P21.3: ErrTooLarge for one gate more than there may be. 64 * (64 + 188) is 16128, 3 * 42 is 126, and 2 * 64 + 2 is 130.
func TestTooLarge(t *testing.T) {
	for _, c := range []struct {
		g     api.Ground
		gates int
		e     api.Errno
	}{
		{ring(64, 124, 41), api.MaxGates - 3, api.OK},
		{ring(64, 124, 42), api.MaxGates, api.OK},
		{ring(64, 124, 43), 0, api.ErrTooLarge},
		{ring(64, 125, 42), 0, api.ErrTooLarge},
		{ring(64, 125, 20), api.MaxGates - 2, api.OK},
		{ring(64, 125, 21), 0, api.ErrTooLarge},
		{ring(64, 123, 63), api.MaxGates - 1, api.OK},
		{ring(64, 123, 64), 0, api.ErrTooLarge},
		{ring(512, 1536, 0), 0, api.ErrTooLarge},
	} {
		n, e := compile.Gates(c.g, x, false)
		if n != c.gates || e != c.e {
			t.Errorf("%d atoms, %d rules: %d, %d, want %d, %d", len(c.g.Atoms), len(c.g.Rules), n, e, c.gates, c.e)
		}
		net, e := compile.Ground(c.g, x, false)
		if e != c.e || len(net.Gates) > n || (network.Check(net) == api.OK) != (e == api.OK) {
			t.Errorf("%d atoms, %d rules: %d gates, %d", len(c.g.Atoms), len(c.g.Rules), len(net.Gates), e)
		}
	}
}

// fails checks the error of Gates and Ground, and that they return nothing else.
func fails(t *testing.T, g api.Ground, roles []api.Term, want api.Errno) {
	t.Helper()
	if n, e := compile.Gates(g, roles, true); n != 0 || e != want {
		t.Errorf("Gates: %d, %d, want %d", n, e, want)
	}
	if net, e := compile.Ground(g, roles, true); fmt.Sprint(net) != fmt.Sprint(api.Net{}) || e != want {
		t.Errorf("Ground: %d gates, %d, want %d", len(net.Gates), e, want)
	}
}

// P21.2, P21.3: ErrInvalid, before all other errors
func TestInvalid(t *testing.T) {
	for _, g := range spoilt() {
		fails(t, g, x, api.ErrInvalid)
	}
	cycle := sample.Ground("a, b, true(a), true(b)", "a if not b. b if not a.")
	large := ring(100, 200, 0)
	fails(t, cycle, x, api.ErrCycle)
	fails(t, large, x, api.ErrTooLarge)
	odd := [][]api.Term{
		nil, {}, sample.Terms("x, x"), sample.Terms("x, y, z, x"), sample.Terms("a, b, c, d, e"), sample.Terms("x, f(a)"), {{Name: "X"}}, {{Name: ""}}, {{Name: "10"}}, {{Name: "x"}, {Name: "not"}}, {{Name: strings.Repeat("a", 17)}}, {{Name: "x", Args: x}}, slices.Repeat(x, 1<<16),
	}
	for _, roles := range odd {
		fails(t, example(), roles, api.ErrInvalid)
		fails(t, cycle, roles, api.ErrInvalid)
		fails(t, large, roles, api.ErrInvalid)
	}
	for _, head := range []string{"true(a)", "true(b)", "does(x,a)", "does(y,a)", "does(1,f(a))"} {
		atoms := "a, b, true(a), true(b), does(x,a), does(y,a), does(1,f(a))"
		fails(t, sample.Ground(atoms, head+"."), x, api.ErrInvalid)
		fails(t, sample.Ground(atoms, "a if not b. b if not a. "+head+" if not "+head+"."), x, api.ErrInvalid)
	}
	for _, head := range []string{"true", "true(a,b)", "does(a)", "does", "does(a,b,c)", "truth(a)"} {
		if n, e := compile.Gates(sample.Ground(head, head+"."), x, false); n != 6 || e != api.OK {
			t.Errorf("%s: %d, %d", head, n, e)
		}
	}
}

// P21.2: ErrCycle, before ErrTooLarge; the strata are those of relations.
func TestCycle(t *testing.T) {
	for _, c := range []struct{ atoms, rules string }{
		{"a", "a if not a."},
		{"a, b, c", "a if b. b if c. c if not a."},
		{"p(a), p(b)", "p(a) if not p(b)."},
		{"p(a), p(b), q(a), q(b)", "p(a) if not q(b). q(a) if p(b)."},
		{"legal(x,a), legal(x,b), does(x,a)", "legal(x,a) if not legal(x,b) and does(x,a)."},
	} {
		fails(t, sample.Ground(c.atoms, c.rules), x, api.ErrCycle)
	}
	large := ring(100, 200, 0)
	large.Rules[0].Neg = []int{99} // of the same ring
	fails(t, large, x, api.ErrCycle)
}

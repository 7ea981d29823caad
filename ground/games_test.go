package ground_test

import (
	"fmt"
	"slices"
	"strings"
	"testing"

	"gameplayer/api"
	"gameplayer/ground"
	"gameplayer/term"
)

// noughts is the game of noughts and crosses.
func noughts() string {
	var text strings.Builder
	for i := range 9 {
		fmt.Fprintf(&text, "init(cell(%d,%d,b)). ", i/3+1, i%3+1)
	}
	return text.String() + `
role(x). role(o). init(control(x)).
next(cell(M,N,x)) if does(x,mark(M,N)) and true(cell(M,N,b)).
next(cell(M,N,o)) if does(o,mark(M,N)) and true(cell(M,N,b)).
next(cell(M,N,W)) if true(cell(M,N,W)) and distinct(W,b).
next(cell(M,N,b)) if does(W,mark(J,K)) and true(cell(M,N,b)) and distinct(M,J).
next(cell(M,N,b)) if does(W,mark(J,K)) and true(cell(M,N,b)) and distinct(N,K).
next(control(x)) if true(control(o)).
next(control(o)) if true(control(x)).
row(M,X) if true(cell(M,1,X)) and true(cell(M,2,X)) and true(cell(M,3,X)).
column(N,X) if true(cell(1,N,X)) and true(cell(2,N,X)) and true(cell(3,N,X)).
diagonal(X) if true(cell(1,1,X)) and true(cell(2,2,X)) and true(cell(3,3,X)).
diagonal(X) if true(cell(1,3,X)) and true(cell(2,2,X)) and true(cell(3,1,X)).
line(X) if row(M,X).
line(X) if column(M,X).
line(X) if diagonal(X).
open if true(cell(M,N,b)).
legal(W,mark(X,Y)) if true(cell(X,Y,b)) and true(control(W)).
legal(x,noop) if true(control(o)).
legal(o,noop) if true(control(x)).
goal(x,100) if line(x).
goal(x,50) if not line(x) and not line(o) and not open.
goal(x,0) if line(o).
terminal if line(x).
terminal if not open.
`
}

// P13.2: a whole game
func TestNoughts(t *testing.T) {
	g, e := ground.Rules(read(noughts()))
	if e != api.OK || !ground.Valid(g) {
		t.Fatal(e)
	}
	count := map[string]int{}
	for _, r := range g.Rules {
		count[g.Atoms[r.Head].Name]++
	}
	// A blank cell stays blank by a mark in another row or column of either role: 9 * 2 * 8 ways.
	want := map[string]int{"role": 2, "init": 10, "next": 9 + 9 + 18 + 144 + 2, "row": 9, "column": 9, "diagonal": 6, "line": 9 + 9 + 3, "open": 9, "legal": 18 + 2, "goal": 3, "terminal": 2}
	if fmt.Sprint(count) != fmt.Sprint(want) {
		t.Error(count, want)
	}
	for _, text := range []string{
		"next(cell(2,3,x)) if does(x,mark(2,3)) and true(cell(2,3,b)).",
		"next(cell(2,3,b)) if true(cell(2,3,b)) and does(o,mark(2,1)).",
		"row(3,b) if true(cell(3,1,b)) and true(cell(3,2,b)) and true(cell(3,3,b)).",
		"diagonal(o) if true(cell(1,3,o)) and true(cell(2,2,o)) and true(cell(3,1,o)).",
		"legal(o,mark(1,1)) if true(control(o)) and true(cell(1,1,b)).",
		"goal(x,50) if not open and not line(o) and not line(x).",
		"terminal if not open.",
	} {
		if r := rule(text); !slices.ContainsFunc(g.Rules, func(x api.GroundRule) bool { return says(g, x, r) }) {
			t.Error(text)
		}
	}
}

// says reports whether a ground rule says what a rule without variables does.
func says(g api.Ground, x api.GroundRule, r api.Rule) bool {
	if term.Compare(g.Atoms[x.Head], r.Head) != 0 || len(x.Pos)+len(x.Neg) != len(r.Body) {
		return false
	}
	return !slices.ContainsFunc(r.Body, func(y api.Literal) bool {
		i := ground.Find(g, y.Atom)
		return y.Not && !slices.Contains(x.Neg, i) || !y.Not && !slices.Contains(x.Pos, i)
	})
}

// pairs are atoms of a relation for all pairs of numbers from two ranges.
func pairs(relation string, from, to, from2, to2 int) []string {
	var l []string
	for i := from; i < to; i++ {
		for k := from2; k < to2; k++ {
			l = append(l, fmt.Sprintf("%s(%d,%d)", relation, i, k))
		}
	}
	return l
}

// diagonal are the pairs of each number with itself.
func diagonal(relation string, n int) []string {
	var l []string
	for i := range n {
		l = append(l, fmt.Sprintf("%s(%d,%d)", relation, i, i))
	}
	return l
}

// R1: rules with very many instances, of which few yield a ground rule
func TestManyInstances(t *testing.T) {
	const five = " if n(A) and n(B) and n(C) and n(D) and n(E)"
	p, n, few := []string{"p"}, numbered("n", 0, 511), numbered("n", 0, 10)
	sides := slices.Concat(pairs("e", 0, 14, 20, 34), pairs("e", 20, 34, 0, 14)) // all ways have two sides, so that none of an odd length comes back
	for _, c := range []struct {
		rule  string
		atoms []api.Term
		want  int // of the ground rules; -1 for too many
	}{
		{"p" + five + ".", atoms(p, n), -1},
		{"p" + five + ".", atoms(p, numbered("n", 0, 11)), 11 + 55 + 165 + 330 + 462},
		{"q" + five + ".", atoms(p, n), 0},
		{"p" + five + " and p.", atoms(p, n), 0},
		{"p" + five + " and not n(C).", atoms(p, n), 0},
		{"p" + five + " and distinct(C,C).", atoms(p, n), 0},
		{"p(A,B,C,D)" + five + ".", atoms(n), 0},
		{"p(A,B,C,D)" + five + " and distinct(A,E) and distinct(B,E) and distinct(C,E).", atoms(few, []string{"p(1,2,3,4)", "p(1,1,1,11)"}), 7},
		{"p(A) if p(B) and l(A,B) and n(C) and n(D) and n(E).", atoms(numbered("n", 0, 80), numbered("p", 0, 200), diagonal("l", 200)), 0},
		{"p(A) if p(B) and l(A,B) and n(C) and n(D) and not p(B).", atoms(numbered("n", 0, 120), numbered("p", 0, 100), pairs("l", 0, 10, 0, 10)), 0},
		{"p" + five + " and not distinct(f(A,B,C),f(C,D,E)) and distinct(B,D).", atoms(p, n), 0},
		{"p" + five + " and not distinct(f(A,B,C),f(C,D,E)) and not distinct(D,f(E)).", atoms(p, n), 0},
		{"p" + five + " and not distinct(f(A,B,C),f(C,D,E)) and not distinct(E,7).", atoms(p, n), 511},
		{"p" + five + " and not distinct(f(A,B,C),f(B,C,D)) and not distinct(E,D).", atoms(p, n), 511},
		{"p" + five + " and m(A,B,C,D) and distinct(A,E).", atoms(p, n[1:], []string{"m(5,6,7,8)"}), 507}, // E is 6, 7 or 8 in one of them
		{"p if e(A,B) and e(B,C) and e(C,D) and e(D,E) and e(E,A).", atoms(p, sides), 0},
		{"p if e(A,B) and e(B,C) and e(C,D) and e(D,E) and e(E,A) and e(A,C) and not e(A,D).", atoms(p, sides), 0},
		{"p if e(A,B) and e(A,C) and e(A,D) and e(A,E) and e(B,C) and e(C,D) and e(D,E) and e(E,B).", atoms(p, sides), 0},
	} {
		list := term.Sort(c.atoms)
		l, e := ground.Instances(rule(c.rule), list)
		if c.want < 0 && (e != api.ErrTooLarge || len(l) > 0) || c.want >= 0 && (e != api.OK || len(l) != c.want) {
			t.Errorf("Instances(%s; %d atoms) is %d rules, %d, want %d", c.rule, len(list), len(l), e, c.want)
		}
	}
}

// R1: very many rules with many variables
func TestManyRules(t *testing.T) {
	s := facts(numbered("n", 0, 40)) + "role(x). "
	for i := range 80 {
		s += fmt.Sprintf("p%d(C) if n(A) and n(B) and n(C) and n(D) and n(E) and not n(%d) and distinct(B,D) and p0(A,B,C). ", i+1, i)
	}
	l := read(s + "p0(0,1,2). p0(2,3,1).")
	g, e := ground.Rules(l)
	if e != api.ErrTooLarge || len(g.Rules) != 0 {
		t.Error(len(g.Rules), e)
	}
	for i := range l {
		l[i].Body = slices.DeleteFunc(l[i].Body, func(y api.Literal) bool {
			return len(y.Atom.Args) > 0 && slices.Contains([]string{"D", "E"}, y.Atom.Args[0].Name)
		})
		l[i].Body = slices.DeleteFunc(l[i].Body, func(y api.Literal) bool { return y.Atom.Name == "distinct" })
	}
	// Of the 80 rules three negate an atom of the body, for each of the two atoms of p0.
	if g, e = ground.Rules(l); e != api.OK || len(g.Rules) != 40+1+2+2*77 {
		t.Error(len(g.Rules), e)
	}
}

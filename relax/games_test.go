package relax_test

import (
	"fmt"
	"strings"
	"testing"

	"gameplayer/api"
	"gameplayer/printer"
	"gameplayer/relax"
)

// noughts is the game of noughts and crosses.
func noughts() string {
	var text strings.Builder
	for i := range 9 {
		fmt.Fprintf(&text, "init(cell(%d,%d,b)). ", i/3+1, i%3+1)
	}
	return text.String() + `
role(x). role(o). init(control(x)).
next(cell(M,N,x)) if does(x,mark(M,N)) and true(cell(M,N,b)).
next(cell(M,N,o)) if does(o,mark(M,N)) and true(cell(M,N,b)).
next(cell(M,N,W)) if true(cell(M,N,W)) and distinct(W,b).
next(cell(M,N,b)) if does(W,mark(J,K)) and true(cell(M,N,b)) and distinct(M,J).
next(cell(M,N,b)) if does(W,mark(J,K)) and true(cell(M,N,b)) and distinct(N,K).
next(control(x)) if true(control(o)).
next(control(o)) if true(control(x)).
row(M,X) if true(cell(M,1,X)) and true(cell(M,2,X)) and true(cell(M,3,X)).
column(N,X) if true(cell(1,N,X)) and true(cell(2,N,X)) and true(cell(3,N,X)).
diagonal(X) if true(cell(1,1,X)) and true(cell(2,2,X)) and true(cell(3,3,X)).
diagonal(X) if true(cell(1,3,X)) and true(cell(2,2,X)) and true(cell(3,1,X)).
line(X) if row(M,X).
line(X) if column(M,X).
line(X) if diagonal(X).
open if true(cell(M,N,b)).
legal(W,mark(X,Y)) if true(cell(X,Y,b)) and true(control(W)).
legal(x,noop) if true(control(o)).
legal(o,noop) if true(control(x)).
goal(x,100) if line(x).
goal(x,50) if not line(x) and not line(o) and not open.
goal(x,0) if line(o).
goal(o,100) if line(o).
goal(o,50) if not line(x) and not line(o) and not open.
goal(o,0) if line(x).
terminal if line(x).
terminal if line(o).
terminal if not open.
`
}

// P12.2, P12.3: a whole game
func TestNoughts(t *testing.T) {
	l := read(noughts())
	atoms, e := relax.Atoms(l)
	count := map[string]int{}
	for _, x := range atoms {
		count[x.Name]++
	}
	want := map[string]int{"role": 2, "init": 10, "next": 29, "true": 29, "legal": 20, "does": 20, "row": 9, "column": 9, "diagonal": 3, "line": 3, "open": 1, "goal": 6, "terminal": 1}
	if fmt.Sprint(count) != fmt.Sprint(want) || e != api.OK {
		t.Error(count, e)
	}
	if got := relax.Bases(atoms); len(got) != 29 || printer.Terms(got[:3]) != "control(o), control(x), cell(1,1,b)" {
		t.Error(printer.Terms(got))
	}
	moves := "noop, mark(1,1), mark(1,2), mark(1,3), mark(2,1), mark(2,2), mark(2,3), mark(3,1), mark(3,2), mark(3,3)"
	for _, role := range []string{"x", "o"} {
		if got := printer.Terms(relax.Moves(atoms, f(role))); got != moves {
			t.Error(role, got)
		}
	}
}

// R1: rules with very many instances, of which few have to be looked at
func TestManyInstances(t *testing.T) {
	const five = " if n(A) and n(B) and n(C) and n(D) and n(E)"
	const square = "e(X,Y) if n(X) and n(Y). "
	for _, c := range []struct {
		numbers int
		rules   string
		count   int // of the atoms that are no facts
		want    api.Errno
	}{
		{120, "p" + five, 1, api.OK},
		{120, "p(A)" + five, 120, api.OK},
		{120, "p(C)" + five, 120, api.OK},
		{120, "p(E)" + five, 120, api.OK},
		{20, "p(B,D)" + five, 400, api.OK},
		{120, "p(A,B,C,D)" + five, 0, api.ErrTooLarge},
		{120, "p(f(A,B),f(C,D),E)" + five, 0, api.ErrTooLarge},
		{120, "n(f(f(0))). p(A,B,C,f(D))" + five, 0, api.ErrDepth},
		{120, "n(f(f(0))). p(A,B,C,f(D))" + five + " and distinct(D,f(f(0)))", 0, api.ErrTooLarge},
		{120, "p(A)" + five + " and distinct(A,B) and distinct(C,D) and distinct(D,E)", 120, api.OK},
		{120, "p(A)" + five + " and distinct(A,B) and not distinct(C,D) and not distinct(f(D,C),f(B,E))", 120, api.OK},
		{120, "p(A)" + five + " and q(A,B,C,D). q(5,6,7,8). q(9,8,7,600)", 3, api.OK},
		{120, "p(A,B,C,D)" + five + " and m(E). m(x)", 1, api.OK},
		{120, "p(A,B,C,D)" + five + " and q(D,E,x). q(5,6,y)", 1, api.OK},
		{120, "p(A,B,C,D)" + five + " and q(A,B) and q(C,D). q(x,x)", 1, api.OK},
		{120, "p(A,B,C,D) if n(A) and n(B) and n(C) and n(D) and m(E) and not distinct(A,E). m(x)", 1, api.OK},
		{120, "p(A,B,C,D)" + five + " and not distinct(f(A,B,C,D),f(B,C,D,E)) and distinct(A,E)", 0, api.OK},
		{120, "n(f(f(0))). p(A,B,C,f(D))" + five + " and m(D,E). m(f(f(0)),x)", 2, api.OK},
		{20, square + "p(A) if e(A,B) and e(B,C) and e(C,D) and e(D,E) and e(E,A) and e(A,C) and e(B,D) and e(C,E)", 420, api.OK},
		{20, square + "p(A,E) if e(A,B) and e(B,C) and e(C,D) and e(D,E) and q(A,E). q(0,1). q(2,3). q(2,20)", 405, api.OK},
		{20, square + "p(A) if e(A,B) and e(B,C) and e(C,D) and e(D,E) and e(E,A) and e(A,C) and q(A,C,E). q(0,0,0)", 402, api.OK},
	} {
		got, e := relax.Atoms(read("role(x). " + facts("n", c.numbers) + c.rules + "."))
		if n := len(got) - c.numbers - 1; e != c.want || e == api.OK && n != c.count {
			t.Errorf("Atoms(%d; %s) is %d atoms, %d, want %d, %d", c.numbers, c.rules, n, e, c.count, c.want)
		}
	}
}

// R1: very many rounds of many rules
func TestManyRounds(t *testing.T) {
	s := "role(x). init(at(0,0)). next(at(A,C)) if true(at(A,B)) and up(B,C) and true(at(A,B)) and up(B,C) and up(B,C). next(at(B,0)) if true(at(A,9)) and up(A,B). "
	for i := range 15 {
		s += fmt.Sprintf("up(%d,%d). ", i, i+1)
	}
	for i := range 90 {
		s += fmt.Sprintf("terminal if true(at(A,B)) and true(at(B,A)) and up(A,B) and up(B,%d) and not true(at(A,A)). ", i)
	}
	if got, e := relax.Atoms(read(s)); e != api.ErrTooLarge || len(got) != 0 {
		t.Error(len(got), e)
	}
	got, e := relax.Atoms(read(strings.ReplaceAll(s, "up(13,14). up(14,15). ", "")))
	if want := 1 + 1 + 13 + 14*14 + 14*14 - 1 + 1; e != api.OK || len(got) != want { // all but next(at(0,0))
		t.Error(len(got), e, want)
	}
}

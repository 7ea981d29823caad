package prove_test

import (
	"fmt"
	"strings"
	"testing"

	"gameplayer/api"
	"gameplayer/printer"
	"gameplayer/prove"
)

// noughts is the game of noughts and crosses.
func noughts() string {
	var text strings.Builder
	for i := range 9 {
		fmt.Fprintf(&text, "init(cell(%d,%d,b)). ", i/3+1, i%3+1)
	}
	return text.String() + `
role(x). role(o). init(control(x)).
next(cell(M,N,R)) if does(R,mark(M,N)) and true(cell(M,N,b)).
next(cell(M,N,W)) if true(cell(M,N,W)) and distinct(W,b).
next(cell(M,N,b)) if does(W,mark(J,K)) and true(cell(M,N,b)) and not same(M,N,J,K).
same(M,N,M,N) if true(cell(M,N,W)).
next(control(x)) if true(control(o)).
next(control(o)) if true(control(x)).
row(M,X) if true(cell(M,1,X)) and true(cell(M,2,X)) and true(cell(M,3,X)).
column(N,X) if true(cell(1,N,X)) and true(cell(2,N,X)) and true(cell(3,N,X)).
diagonal(X) if true(cell(1,1,X)) and true(cell(2,2,X)) and true(cell(3,3,X)).
diagonal(X) if true(cell(1,3,X)) and true(cell(2,2,X)) and true(cell(3,1,X)).
line(X) if row(M,X) and role(X).
line(X) if column(M,X) and role(X).
line(X) if diagonal(X) and role(X).
open if true(cell(M,N,b)).
legal(W,mark(X,Y)) if true(cell(X,Y,b)) and true(control(W)).
legal(W,noop) if role(W) and not true(control(W)).
goal(X,100) if line(X).
goal(X,50) if role(X) and not line(x) and not line(o) and not open.
goal(X,0) if line(Y) and role(X) and distinct(X,Y).
terminal if line(X).
terminal if not open.
`
}

// board is the state of a board, row by row.
func board(cells, control string) []api.Term {
	var state []api.Term
	for i, c := range cells {
		state = append(state, f("cell", f(fmt.Sprint(i/3+1)), f(fmt.Sprint(i%3+1)), f(string(c))))
	}
	return append(state, f("control", f(control)))
}

// P15.1, P15.3: a whole game
func TestNoughts(t *testing.T) {
	l := read(noughts())
	for _, c := range []struct{ cells, control, moves, pattern, want string }{
		{"bbbbbbbbb", "x", "", "goal(X,Y)", ""},
		{"bbbbbbbbb", "x", "", "terminal", ""},
		{"bxobxobbb", "x", "", "legal(X,Y)", "legal(o,noop), legal(x,mark(1,1)), legal(x,mark(2,1)), legal(x,mark(3,1)), legal(x,mark(3,2)), legal(x,mark(3,3))"},
		{"bxobxobbb", "x", "mark(3,2), noop", "next(X)", "next(control(o)), next(cell(1,1,b)), next(cell(1,2,x)), next(cell(1,3,o)), next(cell(2,1,b)), next(cell(2,2,x)), next(cell(2,3,o)), next(cell(3,1,b)), next(cell(3,2,x)), next(cell(3,3,b))"},
		{"bxobxobxb", "o", "", "goal(X,Y)", "goal(o,0), goal(x,100)"},
		{"bxobxobxb", "o", "", "terminal", "terminal"},
		{"oxxxooxox", "o", "", "goal(X,50)", "goal(o,50), goal(x,50)"},
		{"oxxxooxox", "o", "", "line(X)", ""},
		{"oxxxoooxo", "x", "", "diagonal(X)", "diagonal(o)"},
		{"oxxxoooxo", "x", "", "goal(o,X)", "goal(o,100)"},
		{"oxxxoooxo", "x", "", "init(control(X))", "init(control(x))"},
	} {
		given := prove.Given(board(c.cells, c.control), terms(c.moves), terms("x, o"))
		got, e := prove.Answers(l, given, terms(c.pattern)[0])
		if printer.Terms(got) != c.want || e != api.OK {
			t.Errorf("%s of %s: %s, %d, want %s", c.pattern, c.cells, printer.Terms(got), e, c.want)
		}
	}
}

// R1: rules with very many instances, of which few have to be looked at
func TestManyInstances(t *testing.T) {
	const five = " if true(A) and true(B) and true(C) and true(D) and true(E)"
	const square = "e(X,Y) if true(X) and true(Y). "
	const deep = "true(f(f(0)))"
	for _, c := range []struct {
		numbers int
		more    string // what else is given
		rules   string
		count   int // of the atoms that are not given
		want    api.Errno
	}{
		{450, "", "p" + five, 1, api.OK},
		{250, "", "p(A)" + five, 250, api.OK},
		{250, "", "p(E)" + five, 250, api.OK},
		{20, "", "p(B,D)" + five, 400, api.OK},
		{450, "", "p(A,B,C,D)" + five, 0, api.ErrTooLarge},
		{450, deep, "p(A,B,C,f(D))" + five, 0, api.ErrDepth},
		{450, deep, "p(A,B,C,f(D))" + five + " and not q(D). q(f(f(0)))", 0, api.ErrTooLarge},
		{450, deep, "p(A,B,C,f(D))" + five + " and not q(B,D). q(1,f(f(0)))", 0, api.ErrDepth},
		{450, deep, "p(A,B,C,f(D))" + five + " and not distinct(D,E) and not q(E). q(f(f(0)))", 0, api.ErrTooLarge},
		{450, deep, "p(A,f(f(B)))" + five + " and not distinct(B,f(f(0)))", 0, api.ErrDepth},
		{450, deep, "p(A,C,f(f(B)))" + five + " and not distinct(B,f(f(0))) and not distinct(A,f(f(0)))", 0, api.ErrDepth},
		{450, deep, "p(A,C,f(f(B)))" + five + " and not distinct(f(B),f(D)) and not distinct(D,f(f(0))) and not true(B)", 0, api.OK},
		{450, "", "p(A,B,C,D)" + five + " and m(E). m(x)", 1, api.OK},
		{450, "", "p(A,B,C,D)" + five + " and q(D,E,x). q(5,6,y)", 1, api.OK},
		{450, "", "p(A,B,C,D)" + five + " and not distinct(f(A,B,C,D),f(B,C,D,E)) and distinct(A,E)", 0, api.OK},
		{450, "", "p(A,B,C,D)" + five + " and not true(E)", 0, api.OK},
		{450, "", "p(A,B,C,D)" + five + " and not true(A)", 0, api.OK},
		{250, "", "p(A,B,C,D)" + five + " and not m(E). m(X) if true(X)", 250, api.OK},
		{15, "", "p(A,B,C,D)" + five + " and not m(A,E). m(X,Y) if true(X) and true(Y)", 225, api.OK},
		{200, "", "p(A)" + five + " and not m(E) and not m(A) and distinct(A,B). m(X) if true(X) and distinct(X,7)", 200, api.OK},
		{200, "", "p(A)" + five + " and not m(E) and not m(A) and not distinct(E,8). m(X) if true(X) and distinct(X,7)", 199, api.OK},
		{20, "", square + "p(A,E) if e(A,B) and e(B,C) and e(C,D) and e(D,E) and q(A,E). q(0,1). q(2,3). q(2,20)", 405, api.OK},
		{20, "", square + "p(A) if e(A,B) and e(B,C) and e(C,D) and e(D,E) and e(E,A) and e(A,C) and not q(A,C). q(0,0)", 421, api.OK},
		{20, "", square + "p(A) if e(A,B) and e(B,C) and e(C,D) and e(D,E) and e(E,A) and e(A,C) and q(A,C,E). q(0,0,0)", 402, api.OK},
	} {
		given := append(trues(c.numbers), terms(c.more)...)
		got, e := prove.Facts(read(c.rules+"."), given)
		if count := len(got) - len(given); e != c.want || e == api.OK && count != c.count {
			t.Errorf("Facts(%d; %s) is %d atoms, %d, want %d, %d", c.numbers, c.rules, count, e, c.count, c.want)
		}
	}
}

// R1: very many rounds of many rules
func TestManyRounds(t *testing.T) {
	var text strings.Builder
	for i := range 64 {
		fmt.Fprintf(&text, "up(%d,%d). ", i, i+1)
	}
	text.WriteString("at(0,0). at(B,0) if at(A,64) and up(A,B). at(A,C) if at(A,B) and up(B,C). ")
	for i := range 61 {
		fmt.Fprintf(&text, "p%d if at(A,B) and at(B,A) and up(A,B) and up(B,C) and not q(%d). ", i, i)
	}
	if got, e := prove.Facts(read(text.String()), nil); len(got) > 0 || e != api.ErrTooLarge {
		t.Error(len(got), e)
	}
	short := strings.NewReplacer("up(3,4).", "q(3).", "at(A,64)", "at(A,3)").Replace(text.String())
	// Of up, 63 are left; at has 4 rows with 4 columns; of the 61 others, at(3,4) being missing, all but one hold.
	if got, e := prove.Facts(read(short), nil); len(got) != 63+1+16+60 || e != api.OK {
		t.Error(len(got), e)
	}
}

// Package sample serves the tests of several packages: it has games, ground descriptions, networks, and functions that show whether memory is shared. No package of the program imports it.
package sample

import (
	"strconv"
	"strings"

	"gameplayer/api"
	"gameplayer/parser"
	"gameplayer/relax"
)

// Rules reads a description.
func Rules(text string) []api.Rule {
	l, _, e := parser.Parse(text)
	if e != api.OK {
		panic(text)
	}
	return l
}

// Terms reads a list of terms.
func Terms(text string) []api.Term {
	l, _, e := parser.Terms(text)
	if e != api.OK {
		panic(text)
	}
	return l
}

// Any makes a small game. The argument returns a random number below another one.
func Any(below func(n int) int) []api.Rule {
	for {
		text := anyRoles(below)
		for line := range strings.Lines(pieces) {
			if below(3) > 0 {
				text += line
			}
		}
		l := Rules(text)
		if _, e := relax.Atoms(l); e == api.OK {
			return l
		}
	}
}

// anyRoles makes role facts, in any order, repeated or not.
func anyRoles(below func(n int) int) string {
	text := ""
	for range 1 + below(4) {
		text += [...]string{"role(x). ", "role(y). ", "role(chance). "}[below(3)]
	}
	return text
}

// AnyWalk makes a game in which one role or two walk from place to place, which may have many states.
func AnyWalk(below func(n int) int) []api.Rule {
	text := walking
	places := 3 + below(7)
	for _, role := range []string{"x", "y"}[:1+below(2)] {
		text += "role(" + role + "). init(at(" + role + ",0)). "
		for place := range places {
			for _, move := range []string{"a", "b", "c"} {
				if below(3) > 0 {
					text += fact("to", role, strconv.Itoa(place), move, strconv.Itoa(below(places)))
				}
			}
			if below(12) == 0 {
				text += fact("end", role, strconv.Itoa(place))
			}
		}
	}
	return Rules(text)
}

func fact(relation string, args ...string) string {
	return relation + "(" + strings.Join(args, ",") + "). "
}

const walking = `legal(R,M) if true(at(R,P)) and to(R,P,M,Q).
next(at(R,Q)) if true(at(R,P)) and does(R,M) and to(R,P,M,Q).
terminal if true(at(R,P)) and end(R,P).
goal(R,P) if true(at(R,P)).
`

// pieces are rules of which any may be left out.
const pieces = `init(a).
init(10).
init(s).
init(X) if e(X) and not r(X).
e(a).
e(2).
e(f(b)).
r(2).
r(X) if e(X) and distinct(X,a).
p(X) if true(X) and not r(X).
p(X) if true(f(X)).
q if true(a) and true(10) and true(2).
q if true(s) and p(b) and not true(2).
m if does(x,a).
m if does(R,f(X)) and not true(X).
n(X) if true(X) and not m.
n(Y) if does(R,Y) and e(Y).
legal(x,a).
legal(x,b) if true(s).
legal(x,f(X)) if true(X) and e(X).
legal(x,10) if not q.
legal(R,go) if role(R) and not true(2).
legal(R,X) if role(R) and p(X) and distinct(R,x).
legal(y,a) if true(a).
legal(y,2) if q.
legal(y,b).
legal(chance,a).
legal(chance,f(a)) if not p(a).
next(a) if does(x,b).
next(2) if does(R,2).
next(2) if does(R,10).
next(10) if m and not true(10).
next(s) if does(y,go).
next(f(b)) if does(chance,a) and not does(x,a).
next(X) if true(X) and not does(x,X).
next(X) if n(X) and not does(y,go).
next(X) if does(R,f(X)).
terminal if q.
terminal if true(a) and true(2) and not true(s).
terminal if not true(s) and not true(a) and not true(2).
goal(x,100) if true(a).
goal(x,0) if not true(a).
goal(R,50) if role(R) and q.
goal(y,7) if not q.
goal(y,101).
goal(y,none) if true(s).
goal(R,X) if role(R) and true(X) and not q.
sees(x,X) if does(y,X).
sees(R,X) if role(R) and p(X) and not m.
sees(y,m) if m.
sees(chance,a) if does(x,a).
`

package ground_test

import (
	"fmt"
	"math"
	"slices"
	"strconv"
	"strings"
	"testing"

	"gameplayer/api"
	"gameplayer/ground"
	"gameplayer/parser"
	"gameplayer/printer"
)

// read reads a description.
func read(s string) []api.Rule {
	l, _, e := parser.Parse(s)
	if e != api.OK {
		panic(s)
	}
	return l
}

// rule reads a rule.
func rule(s string) api.Rule {
	r, _, e := parser.Rule(s)
	if e != api.OK {
		panic(s)
	}
	return r
}

// terms reads terms.
func terms(s string) []api.Term {
	l, _, e := parser.Terms(s)
	if e != api.OK {
		panic(s)
	}
	return l
}

// f makes a term.
func f(name string, args ...api.Term) api.Term { return api.Term{Name: name, Args: args} }

// numbered are the atoms of a relation with the numbers from one up to, but not including, another one.
func numbered(relation string, from, to int) []string {
	var l []string
	for i := from; i < to; i++ {
		l = append(l, fmt.Sprintf("%s(%d)", relation, i))
	}
	return l
}

// atoms reads texts of atoms.
func atoms(parts ...[]string) []api.Term { return terms(strings.Join(slices.Concat(parts...), ",")) }

// facts are the texts of atoms as facts.
func facts(parts ...[]string) string { return strings.Join(slices.Concat(parts...), ". ") + ". " }

// short writes ground rules as in "2:0,1/4 3:": the head, Pos and, if there are any, Neg.
func short(l []api.GroundRule) string {
	var texts []string
	for _, r := range l {
		s := fmt.Sprintf("%d:%s", r.Head, strings.Trim(strings.ReplaceAll(fmt.Sprint(r.Pos), " ", ","), "[]"))
		if len(r.Neg) > 0 {
			s += "/" + strings.Trim(strings.ReplaceAll(fmt.Sprint(r.Neg), " ", ","), "[]")
		}
		texts = append(texts, s)
	}
	return strings.Join(texts, " ")
}

// texts are the texts of the ground rules of a ground description.
func texts(g api.Ground) string {
	var l []string
	for _, r := range g.Rules {
		l = append(l, ground.Text(g, r))
	}
	return strings.Join(l, " ")
}

// P13.2
func TestRules(t *testing.T) {
	for _, c := range []struct{ rules, atoms, want string }{
		{"role(x).", "role(x)", "role(x)."},
		{"role(x). p(a). p(b). q(X) if p(X) and not r(X). r(a).", "p(a), p(b), q(a), q(b), r(a), role(x)", "p(a). p(b). q(a) if p(a) and not r(a). q(b) if p(b). r(a). role(x)."},
		{"role(x). role(o). role(x). role(x).", "role(o), role(x)", "role(o). role(x)."},
		{"role(x). p(a). p(X) if p(X).", "p(a), role(x)", "p(a). role(x)."},
		{"role(x). p if q and not q. q.", "p, q, role(x)", "q. role(x)."},

		// facts and moves are possible without rules of their own
		{"role(x). init(on). legal(x,stay) if true(on). next(on) if does(x,stay).", "init(on), next(on), role(x), true(on), does(x,stay), legal(x,stay)", "init(on). next(on) if does(x,stay). role(x). legal(x,stay) if true(on)."},
		{"role(x). init(a). init(b). legal(x,X) if true(X). next(Y) if does(x,X) and true(Y) and not true(X).", "init(a), init(b), next(a), next(b), role(x), true(a), true(b), does(x,a), does(x,b), legal(x,a), legal(x,b)", "init(a). init(b). next(a) if true(a) and does(x,b) and not true(b). next(b) if true(b) and does(x,a) and not true(a). role(x). legal(x,a) if true(a). legal(x,b) if true(b)."},

		// ground rules of several rules, each once, in their order
		{"role(x). q if not b and a. q if a. q if c and a. a. b. c. q if c and a. q. q if not b. q if a and b.", "a, b, c, q, role(x)", "a. b. c. q. q if not b. q if a. q if a and not b. q if a and b. q if a and c. role(x)."},
		{"role(x). n(0). n(1). p(X,Y) if n(X) and n(Y). p(Y,X) if n(Y) and n(X).", "n(0), n(1), role(x), p(0,0), p(0,1), p(1,0), p(1,1)", "n(0). n(1). role(x). p(0,0) if n(0). p(0,1) if n(0) and n(1). p(1,0) if n(0) and n(1). p(1,1) if n(1)."},

		// what is not possible
		{"role(x). p(X) if q(X) and r(X). q(a). q(b). r(b).", "p(b), q(a), q(b), r(b), role(x)", "p(b) if q(b) and r(b). q(a). q(b). r(b). role(x)."},
		{"role(x). p if not q(a) and not r and not q(b). r. q(b).", "p, r, q(b), role(x)", "p if not r and not q(b). r. q(b). role(x)."},
		{"role(x). p(X) if q(X) and not distinct(X,a). r(X) if q(X) and distinct(X,a). q(a). q(b).", "p(a), q(a), q(b), r(b), role(x)", "p(a) if q(a). q(a). q(b). r(b) if q(b). role(x)."},
	} {
		g, e := ground.Rules(read(c.rules))
		if a, s := printer.Terms(g.Atoms), texts(g); a != c.atoms || s != c.want || e != api.OK {
			t.Errorf("Rules(%s) is %s; %s, %d, want %s; %s", c.rules, a, s, e, c.atoms, c.want)
		}
	}
}

// P13.2: the errors, in their order
func TestRulesErrors(t *testing.T) {
	const role = "role(x). "
	few := facts(numbered("n", 0, 32), numbered("m", 0, 64)) + role
	for _, c := range []struct {
		name  string
		rules []api.Rule
		want  api.Errno
	}{
		{"no rules", nil, api.ErrRole},
		{"no roles", read("p."), api.ErrRole},
		{"129 rules", slices.Repeat(read("role(x)."), 129), api.ErrTooLong},
		{"a rule without a name", []api.Rule{{}}, api.ErrName},
		{"a variable", read(role + "p(X)."), api.ErrUnsafe},
		{"two arities", read(role + "p. p(a)."), api.ErrArity},
		{"a cycle", read(role + "p if not q. q if p. q if q and a."), api.ErrCycle},
		{"not before does", read(role + "legal(x,a) if does(x,a)."), api.ErrDepends},
		{"too deep", read(role + "p(a). p(f(X)) if p(X)."), api.ErrDepth},
		{"too many atoms", read(few + "p(X,Y) if n(X) and m(Y)."), api.ErrTooLarge},
		{"too deep, and too many atoms", read(few + "p(X,f(Y)) if n(X) and m(Y). m(f(f(a)))."), api.ErrDepth},
		{"a cycle, and too many atoms", read(few + "p(X,Y) if n(X) and m(Y). q if not q."), api.ErrCycle},
	} {
		if g, e := ground.Rules(c.rules); len(g.Atoms) != 0 || len(g.Rules) != 0 || e != c.want {
			t.Errorf("%s: %d atoms, %d rules, %d, want %d", c.name, len(g.Atoms), len(g.Rules), e, c.want)
		}
	}
}

// P13.2: so many ground rules as are permitted, and one more
func TestRulesLimit(t *testing.T) {
	// With the role these are 64 ground rules; of n and m there are 32 * 31 pairs, and 64 + 2 * 992 is MaxGround.
	few := facts(numbered("n", 0, 32), numbered("m", 0, 31)) + "role(x). "
	const pairs = "p if n(X) and m(Y). "
	const others = "q if n(X) and m(Y). "
	for _, c := range []struct {
		more string
		want int // of the ground rules; 0 for too many
	}{
		{pairs, 64 + 992},
		{pairs + others, 2048},
		{pairs + others + pairs, 2048},
		{pairs + "p if m(Y) and n(X) and m(Y) and not r. " + others + "p if n(3) and m(3). ", 2048},
		{pairs + others + "r if r. r if p and not p. p if p and n(X). ", 2048},
		{pairs + others + "r if p. ", 0},
		{"r if p. " + pairs + others, 0},
		{pairs + others + "p if n(0). ", 0},
		{pairs + "q if n(X) and m(Y) and distinct(X,Y). ", 2048 - 31},
		{pairs + "q if n(X) and m(Y) and distinct(X,Y). " + "r if m(X). ", 2048},
		{pairs + "q if n(X) and m(Y) and distinct(X,Y). " + "r if n(X). ", 0},
		{pairs + others + "r if n(X) and m(Y). ", 0},
	} {
		g, e := ground.Rules(read(few + c.more))
		if c.want == 0 && (e != api.ErrTooLarge || len(g.Rules)+len(g.Atoms) > 0) || c.want > 0 && (e != api.OK || len(g.Rules) != c.want) {
			t.Errorf("%s: %d rules, %d, want %d", c.more, len(g.Rules), e, c.want)
		}
	}
}

// P13.1
func TestInstances(t *testing.T) {
	for _, c := range []struct{ rule, atoms, want string }{
		{"p.", "p", "0:"},
		{"p.", "", ""},
		{"r.", "p", ""},
		{"p(f(a)).", "p, p(a), p(f(a)), p(f(b))", "2:"},
		{"role(x).", "p, role(a), role(x)", "2:"},
		{"q(X) if p(X) and p(Y) and distinct(X,Y).", "p(a), p(b), q(a)", "2:0,1"},
		{"p(X) if p(X).", "p(a), p(b)", ""},
		{"p if q and not q.", "p, q", ""},

		// the head must be in the list
		{"p(X) if q(X).", "p(a), p(c), q(a), q(b)", "0:2"},
		{"p(X) if q(X).", "p, q(a), p(a,a)", ""},
		{"p(X,Y) if q(X) and q(Y).", "q(a), q(b), q(c), p(a,b), p(b,a), p(c,c), p(c,d)", "3:0,1 4:0,1 5:2"},
		{"p(f(X)) if q(X).", "p(a), p(f(b)), p(f(c)), p(g(a)), q(a), q(b)", "1:5"},
		{"p(a) if q(X).", "p(a), p(b), q(a), q(b)", "0:2 0:3"},
		{"p(f(f(X))) if q(X).", "p(f(f(a))), p(f(f(b))), q(a), q(f(a))", "0:2"},

		// Pos
		{"p if q and r.", "p, q, r", "0:1,2"},
		{"p if r and q.", "p, q, r", "0:1,2"},
		{"p if q and q and q.", "p, q", "0:1"},
		{"p if q and r.", "p, q", ""},
		{"p(X) if q(X,Y).", "p(a), p(b), q(a,a), q(a,b), q(b,a)", "0:2 0:3 1:4"},
		{"p(X) if q(Y,X) and r(Y).", "p(a), p(b), r(a), r(b), q(a,b), q(b,a), q(b,b)", "0:3,5 1:2,4 1:3,6"},
		{"p if q(X) and q(Y).", "p, q(a), q(b), q(c)", "0:1 0:1,2 0:1,3 0:2 0:2,3 0:3"},
		{"p if q(X,X).", "p, q(a,a), q(a,b), q(b,b)", "0:1 0:3"},
		{"p if q(f(X,a),X).", "p, q(f(a,a),a), q(f(b,a),a), q(f(b,a),b), q(f(b,b),b)", "0:1 0:3"},
		{"p(X) if q(f(X)) and r(X).", "p(a), p(b), p(f(a)), q(f(a)), q(f(b)), q(f(f(a))), r(a), r(f(a))", "0:3,6 2:5,7"},
		{"p if q(X) and true(X) and does(X,Y) and role(Y).", "p, q(a), role(b), role(c), true(a), does(a,b), does(a,c), does(b,c)", "0:1,2,4,5 0:1,3,4,6"},
		{"p(1) if q(10) and q(2).", "p(1), q(2), q(10)", "0:1,2"},
		{"p if q(A) and q(B) and q(C) and q(D) and q(E) and q(f(A,B)) and q(g(C,D,E)) and r.", "p, r, q(a), q(b), q(f(a,b)), q(g(b,b,a))", "0:1,2,3,4,5"},

		// the head in Pos
		{"p(X) if p(X) and q.", "q, p(a)", ""},
		{"p(X) if p(Y) and p(X).", "p(a), p(b)", ""},
		{"p(X) if p(Y) and q(X).", "p(a), p(b), q(a), q(b)", "0:1,2 1:0,3"},
		{"p(X) if q(X) and p(Y) and p(Z).", "p(a), p(b), p(c), q(a)", "0:1,2,3 0:1,3 0:2,3"},
		{"p(X) if p(f(X)) and p(Y).", "p(a), p(b), p(f(a)), p(f(f(a)))", "0:1,2 0:2 0:2,3 2:0,3 2:1,3 2:3"},

		// Neg
		{"p if not q.", "p, q", "0:/1"},
		{"p if not q.", "p", "0:"},
		{"p if not p.", "p", "0:/0"},
		{"p if not p and q.", "p, q", "0:1/0"},
		{"p if not q and not q.", "p, q", "0:/1"},
		{"p if not r and not q and not s.", "p, q, r", "0:/1,2"},
		{"p(X) if q(X) and not r(X).", "p(a), p(b), q(a), q(b), r(b)", "0:2 1:3/4"},
		{"p(X) if q(X) and not r(X,a) and not r(a,X).", "p(a), p(b), q(a), q(b), r(a,a), r(a,b)", "0:2/4 1:3/5"},
		{"p if q(X) and not q(f(X)).", "p, q(a), q(b), q(f(a)), true(q(f(b)))", "0:1/3 0:2 0:3"},
		{"p if q(f(X)) and not q(f(f(X))).", "p, q(f(a)), q(f(f(a)))", "0:1/2 0:2"},
		{"p if not true(a) and not does(x,a) and not role(a).", "p, role(a), true(a), does(x,a)", "0:/1,2,3"},

		// a number in Pos and in Neg
		{"p if q(X) and not q(a).", "p, q(a), q(b)", "0:2/1"},
		{"p if q(X) and not q(Y) and r(Y).", "p, q(a), q(b), r(a), r(b), r(c)", "0:1,4/2 0:1,5 0:2,3/1 0:2,5"},
		{"p if q(X) and q(Y) and not q(X).", "p, q(a), q(b)", ""},
		{"p if not q(X) and q(Y) and r(X,Y).", "p, q(a), q(b), r(a,a), r(a,b), r(c,b)", "0:2,4/1 0:2,5"},
		{"p if q(X) and q(Y) and r(Z) and not q(Z) and not r(X).", "p, q(a), q(b), r(b), r(c)", "0:1,2,4 0:1,2,4/3 0:1,3/2 0:1,4 0:2,4/3"},

		// distinct
		{"p if distinct(a,b).", "p", "0:"},
		{"p if not distinct(a,b).", "p", ""},
		{"p if distinct(a,a).", "p", ""},
		{"p if not distinct(f(a),f(a)).", "p", "0:"},
		{"p if distinct(f(a),g(a)) and distinct(f(a),f(a,a)) and distinct(a,f(a)) and distinct(1,10).", "p", "0:"},
		{"p(X) if q(X,Y) and distinct(X,Y).", "p(a), p(b), q(a,a), q(b,a)", "1:3"},
		{"p(X) if q(X,Y) and not distinct(X,Y).", "p(a), p(b), q(a,a), q(b,a)", "0:2"},
		{"p(X) if q(X) and distinct(X,a) and distinct(b,X).", "p(a), p(b), p(c), q(a), q(b), q(c)", "2:5"},
		{"p(X) if q(X) and not distinct(X,a) and not distinct(b,X).", "p(a), p(b), p(c), q(a), q(b), q(c)", ""},
		{"p(X) if q(X) and not distinct(X,a) and distinct(b,X).", "p(a), p(b), p(c), q(a), q(b), q(c)", "0:3"},
		{"p if q(X) and q(Y) and distinct(f(X,a),f(b,Y)).", "p, q(a), q(b)", "0:1 0:1,2 0:2"},
		{"p if q(X) and r(Y) and distinct(f(X,a),f(b,Y)).", "p, q(a), q(b), r(a), r(b)", "0:1,3 0:1,4 0:2,4"},
		{"p if q(X) and r(Y) and not distinct(f(X,a),f(b,Y)).", "p, q(a), q(b), r(a), r(b)", "0:2,3"},
		{"p if q(X) and r(Y) and not distinct(X,f(Y)).", "p, q(a), q(f(a)), q(f(b)), r(a), r(f(a))", "0:2,4"},
		{"p if q(X) and r(Y) and distinct(f(Y),X).", "p, q(a), q(f(a)), q(f(b)), r(a)", "0:1,4 0:3,4"},
		{"p(X,Y) if q(X) and q(Y) and q(Z) and not distinct(f(X,Y),f(Y,Z)).", "q(a), q(b), p(a,a), p(a,b), p(b,b)", "2:0 4:1"},
		{"p if q(X) and not distinct(X,f(X)).", "p, q(a), q(f(a))", ""},
		{"p if q(X) and distinct(X,f(X)).", "p, q(a), q(f(a))", "0:1 0:2"},
		{"p if q(X) and q(Y) and q(Z) and not distinct(X,f(Y)) and not distinct(Y,g(Z)).", "p, q(a), q(b), q(f(g(b))), q(g(a)), q(g(b))", "0:2,3,5"},
		{"p if q(X) and q(Y) and not distinct(X,Y) and not q(Y) and distinct(a,b).", "p, q(a)", ""},

		// terms that become deeper than MaxDepth are compared like others
		{"p if q(X) and q(Y) and distinct(f(f(X)),f(f(Y))).", "p, q(f(f(a))), q(f(f(b)))", "0:1,2"},
		{"p if q(X) and q(Y) and not distinct(f(f(X)),f(f(Y))).", "p, q(f(f(a))), q(f(f(b)))", "0:1 0:2"},
		{"p if q(X) and q(Y) and q(Z) and not distinct(X,f(f(Y))) and not distinct(f(f(X)),f(f(Z))).", "p, q(b), q(f(f(a))), q(f(f(b)))", "0:1,3"},
		{"p if q(X) and q(Y) and q(Z) and not distinct(X,f(f(Y))) and distinct(f(f(X)),f(f(Z))).", "p, q(b), q(f(f(a))), q(f(f(b)))", "0:1,2,3 0:1,3"},
		{"p if q(X) and q(Y) and q(Z) and not distinct(X,f(f(Y))) and not distinct(Y,f(f(Z))).", "p, q(a), q(f(f(a)))", ""},
	} {
		l, e := ground.Instances(rule(c.rule), terms(c.atoms))
		if s := short(l); s != c.want || e != api.OK {
			t.Errorf("Instances(%s; %s) is %s, %d, want %s", c.rule, c.atoms, s, e, c.want)
		}
	}
}

// P13.1: the errors, in their order
func TestInstancesErrors(t *testing.T) {
	long := terms("p, p")
	deep := f("p", f("f", f("f", f("f", f("a")))))
	many := atoms(numbered("n", 0, 513))
	nine := api.Rule{Head: f("p"), Body: slices.Repeat([]api.Literal{{Atom: f("n", f("X"))}}, 9)}
	pairs := rule("p if n(X) and n(Y).")
	for _, c := range []struct {
		rule  api.Rule
		atoms []api.Term
		want  api.Errno
	}{
		{nine, long, api.ErrTooLong},
		{api.Rule{Head: f("P")}, long, api.ErrName},
		{rule("goal(x)."), long, api.ErrArity},
		{api.Rule{Head: deep}, long, api.ErrDepth},
		{rule("true(a)."), long, api.ErrKeyword},
		{rule("p if q(A,B,C) and q(D,E,F)."), long, api.ErrTooLarge},
		{rule("p(X) if not n(X)."), long, api.ErrUnsafe},
		{rule("role(x) if p."), long, api.ErrRole},
		{rule("p(X) if distinct(X,a)."), many, api.ErrUnsafe},
		{rule("p."), long, api.ErrInvalid},
		{rule("p."), terms("q, p"), api.ErrInvalid},
		{rule("p."), terms("p, q(b), q(a)"), api.ErrInvalid},
		{rule("p."), terms("n(10), n(2)"), api.ErrInvalid},
		{rule("p."), terms("p, X"), api.ErrInvalid},
		{rule("p."), terms("p, q(f(X))"), api.ErrInvalid},
		{rule("p."), terms("7, p"), api.ErrInvalid},
		{rule("p."), terms("p, distinct(a,b)"), api.ErrInvalid},
		{rule("p."), terms("distinct, p"), api.ErrInvalid},
		{rule("p."), []api.Term{{}}, api.ErrInvalid},
		{rule("p."), []api.Term{f("a_b")}, api.ErrInvalid},
		{rule("p."), []api.Term{f("if")}, api.ErrInvalid},
		{rule("p."), []api.Term{f("p", f("007"))}, api.ErrInvalid},
		{rule("p."), []api.Term{f("P", f("a"))}, api.ErrInvalid},
		{rule("p."), []api.Term{f("7", f("a"))}, api.ErrInvalid},
		{rule("p."), []api.Term{f("p", slices.Repeat([]api.Term{f("a")}, 5)...)}, api.ErrInvalid},
		{rule("p."), []api.Term{deep}, api.ErrInvalid},
		{rule("p."), many, api.ErrInvalid},
		{rule("n(X) if n(X)."), many[:512], api.OK},
		{pairs, append(terms("p"), many...), api.ErrInvalid},
		{pairs, append(terms("p"), many[:511]...), api.ErrTooLarge},
		{pairs, append(terms("p"), many[:64]...), api.ErrTooLarge},
	} {
		if l, e := ground.Instances(c.rule, c.atoms); len(l) != 0 || e != c.want {
			t.Errorf("Instances(%s; %d atoms, the last one %s) is %d rules, %d, want %d", printer.Rule(c.rule), len(c.atoms), printer.Terms(c.atoms[len(c.atoms)-1:]), len(l), e, c.want)
		}
	}
}

// P13.1: so many ground rules as are permitted, and one more
func TestInstancesLimit(t *testing.T) {
	for _, c := range []struct {
		rule  string
		atoms []api.Term
		want  int // of the ground rules; 0 for too many
	}{
		{"p if n(X) and m(Y).", atoms(numbered("m", 0, 32), numbered("n", 0, 64)), 2048},
		{"p if n(X) and m(Y) and distinct(X,Y).", atoms(numbered("m", 0, 41), numbered("n", 40, 90)), 0}, // 41 * 50 - 1
		{"p if n(X) and m(Y) and distinct(X,Y).", atoms(numbered("m", 0, 41), numbered("n", 39, 89)), 2048},
		{"p if n(X) and m(Y) and not n(Y).", atoms(numbered("m", 0, 41), numbered("n", 39, 89)), 2048},
		{"p if n(X) and m(Y) and not n(Y).", atoms(numbered("m", 0, 41), numbered("n", 40, 90)), 0},
		{"m(X) if k(X) and m(Y).", atoms(numbered("k", 0, 45), numbered("m", 0, 45)), 45 * 44},
		{"m(X) if k(X) and m(Y).", atoms(numbered("k", 0, 46), numbered("m", 0, 46)), 0},
		{"p if n(X) and n(Y).", atoms(numbered("n", 0, 63)), 63 * 64 / 2},
		{"p if n(X) and n(Y).", atoms(numbered("n", 0, 64)), 0},
		{"p if n(X) and n(Y) and distinct(X,Y).", atoms(numbered("n", 0, 64)), 64 * 63 / 2},
		{"p if n(X) and n(Y) and distinct(X,Y).", atoms(numbered("n", 0, 65)), 0},
	} {
		list := c.atoms
		if c.rule[0] == 'p' {
			list = append(list, f("p"))
			slices.SortStableFunc(list, func(a, b api.Term) int { return len(a.Args) - len(b.Args) })
		}
		l, e := ground.Instances(rule(c.rule), list)
		if c.want == 0 && (e != api.ErrTooLarge || len(l) > 0) || c.want > 0 && (e != api.OK || len(l) != c.want) {
			t.Errorf("%s: %d rules, %d, want %d", c.rule, len(l), e, c.want)
		}
	}
}

// P13.3
func TestFind(t *testing.T) {
	g := api.Ground{Atoms: terms("p, q, p(a), p(f(2,b)), p(a,b)")}
	for i, x := range g.Atoms {
		if got := ground.Find(g, x); got != i {
			t.Errorf("%s is %d", printer.Terms([]api.Term{x}), got)
		}
	}
	for _, x := range append(terms("r, p(b), p(f(2)), p(f(b,2)), p(b,a), q(a), p(a,b,c), a, 2, X, p(X)"), api.Term{}, f("P")) {
		if got := ground.Find(g, x); got != -1 {
			t.Errorf("%s is %d", printer.Terms([]api.Term{x}), got)
		}
	}
	if ground.Find(api.Ground{}, f("p")) != -1 || ground.Find(api.Ground{Rules: []api.GroundRule{{}}}, api.Term{}) != -1 {
		t.Error("no atoms")
	}
}

// P13.3: atoms that are no list of ground atoms
func TestFindInAny(t *testing.T) {
	g := api.Ground{Atoms: append(terms("r, q, p, q, X, 7, p(X), distinct(a,b), p"), api.Term{}, f("P", f("")), f("p", slices.Repeat([]api.Term{f("a")}, 600)...))}
	for i, want := range []int{0, 1, 2, 1, 4, 5, 6, 7, 2, 9, 10, 11} {
		if got := ground.Find(g, g.Atoms[i]); got != want {
			t.Errorf("%d is %d, want %d", i, got, want)
		}
	}
	many := api.Ground{Atoms: slices.Repeat(terms("z, b"), 400)}
	many.Atoms = append(many.Atoms, f("a"))
	if ground.Find(many, f("b")) != 1 || ground.Find(many, f("a")) != 800 || ground.Find(many, f("c")) != -1 {
		t.Error("many atoms")
	}
}

// P13.4
func TestText(t *testing.T) {
	g := api.Ground{Atoms: terms("p(a), p(b), q(a), q(b), r(a), role(x)")}
	odd := api.Ground{Atoms: append(terms("q, p, X, p, distinct(f(X),7)"), api.Term{}, f("", f("A b"), f("7", f("if"))))}
	for _, c := range []struct {
		g    api.Ground
		r    api.GroundRule
		want string
	}{
		{g, api.GroundRule{Head: 2, Pos: []int{0}, Neg: []int{4}}, "q(a) if p(a) and not r(a)."},
		{g, api.GroundRule{}, "p(a)."},
		{g, api.GroundRule{Head: 5, Pos: []int{}, Neg: []int{}}, "role(x)."},
		{g, api.GroundRule{Head: 0, Pos: []int{1}}, "p(a) if p(b)."},
		{g, api.GroundRule{Head: 0, Neg: []int{1}}, "p(a) if not p(b)."},
		{g, api.GroundRule{Head: 0, Neg: []int{1, 4}}, "p(a) if not p(b) and not r(a)."},
		{g, api.GroundRule{Head: 3, Pos: []int{1, 2, 5}}, "q(b) if p(b) and q(a) and role(x)."},
		{g, api.GroundRule{Head: 3, Pos: []int{1, 2}, Neg: []int{0, 5}}, "q(b) if p(b) and q(a) and not p(a) and not role(x)."},

		// any numbers, in their order
		{g, api.GroundRule{Head: 3, Pos: []int{3, 2, 2}, Neg: []int{5, 3, 0, 5}}, "q(b) if q(b) and q(a) and q(a) and not role(x) and not q(b) and not p(a) and not role(x)."},
		{g, api.GroundRule{Head: 6}, ""},
		{g, api.GroundRule{Head: -1}, ""},
		{g, api.GroundRule{Pos: []int{6}}, ""},
		{g, api.GroundRule{Pos: []int{-1}}, ""},
		{g, api.GroundRule{Neg: []int{6}}, ""},
		{g, api.GroundRule{Neg: []int{-1}}, ""},
		{g, api.GroundRule{Head: 1, Pos: []int{0, 2, 7, 3}, Neg: []int{1}}, ""},
		{g, api.GroundRule{Head: 1, Pos: []int{0}, Neg: []int{1, 9}}, ""},
		{g, api.GroundRule{Head: math.MaxInt}, ""},
		{g, api.GroundRule{Neg: []int{0, math.MinInt}}, ""},
		{api.Ground{}, api.GroundRule{}, ""},

		// any atoms
		{odd, api.GroundRule{Head: 2, Pos: []int{0, 1, 3}, Neg: []int{4}}, "X if q and p and p and not distinct(f(X),7)."},
		{odd, api.GroundRule{Head: 5, Pos: []int{6}, Neg: []int{5}}, " if (A b,7(if)) and not ."},
	} {
		if got := ground.Text(c.g, c.r); got != c.want {
			t.Errorf("Text(%v) is %q, want %q", c.r, got, c.want)
		}
	}
}

// numbers reads numbers that are divided by commas.
func numbers(s string) []int {
	var l []int
	for w := range strings.SplitSeq(s, ",") {
		n, err := strconv.Atoi(w)
		if err == nil {
			l = append(l, n)
		}
	}
	return l
}

// groundRules reads ground rules as short writes them.
func groundRules(s string) []api.GroundRule {
	var l []api.GroundRule
	for w := range strings.FieldsSeq(s) {
		head, body, _ := strings.Cut(w, ":")
		pos, neg, _ := strings.Cut(body, "/")
		l = append(l, api.GroundRule{Head: numbers(head)[0], Pos: numbers(pos), Neg: numbers(neg)})
	}
	return l
}

// P13.3
func TestValid(t *testing.T) {
	deepest, deep := f("p", f("f", f("f", f("a")))), f("p", f("f", f("f", f("f", f("a")))))
	for _, c := range []struct {
		atoms []api.Term
		rules string
		want  bool
	}{
		{nil, "", true},
		{terms("p, q, r"), "", true},
		{terms("p, q, r"), "0: 0:/0 0:0 0:0,1 0:0,1/0 0:0,1/0,1 0:0,1/1 0:0,1,2 0:0,2 0:1 0:1/0 0:2 1: 2: 2:/2", true},
		{nil, "0:", false},
		{terms("p, q"), "0:1 0:1/0 1:0,1/0,1", true},

		// the atoms
		{terms("q, p"), "", false},
		{terms("p, p"), "", false},
		{terms("p, q, q"), "", false},
		{terms("p(2), p(10), p(a), p(f(a)), q(a), p(a,a), a(a,a,a,a)"), "", true},
		{terms("p(10), p(2)"), "", false},
		{terms("p(a,a), q(a)"), "", false},
		{terms("true(a), does(x,a), legal(x,a)"), "0:2", true},
		{terms("init, true, does(x), p(distinct)"), "", true},
		{terms("distinct(a,b)"), "", false},
		{terms("distinct"), "", false},
		{terms("p(distinct(a,b))"), "", true},
		{terms("X"), "", false},
		{terms("p(X)"), "", false},
		{terms("p(f(g(X)))"), "", false},
		{terms("7"), "", false},
		{terms("7, p"), "", false},
		{terms("p, 7"), "", false},
		{[]api.Term{{}}, "", false},
		{[]api.Term{f("not")}, "", false},
		{[]api.Term{f("p", f(""))}, "", false},
		{[]api.Term{f("p", f("10000"))}, "", false},
		{[]api.Term{f("7", f("a"))}, "", false},
		{[]api.Term{f("P", f("a"))}, "", false},
		{[]api.Term{f("p", f("a"), f("b"), f("c"), f("d"), f("e"))}, "", false},
		{[]api.Term{deepest}, "0:", true},
		{[]api.Term{deep}, "", false},
		{atoms(numbered("n", 0, 512)), "511:0,511/0,511", true},
		{atoms(numbered("n", 0, 513)), "", false},

		// the numbers
		{terms("p, q, r"), "2:2/2", true},
		{terms("p, q, r"), "3:", false},
		{terms("p, q, r"), "-1:", false},
		{terms("p, q, r"), "0:3", false},
		{terms("p, q, r"), "0:-1", false},
		{terms("p, q, r"), "0:-1,0", false},
		{terms("p, q, r"), "0:1,2,3", false},
		{terms("p, q, r"), "0:/3", false},
		{terms("p, q, r"), "0:/-1", false},
		{terms("p, q, r"), "0:0/0,3", false},
		{terms("p, q, r"), "0: 1: 2:0 3:", false},
		{terms("p, q, r"), "0:2,1", false},
		{terms("p, q, r"), "0:1,1", false},
		{terms("p, q, r"), "0:/2,1", false},
		{terms("p, q, r"), "0:/1,1", false},
		{terms("p, q, r"), "0:0,2,1", false},
		{terms("p, q, r"), "0:/0,2,2", false},

		// the order of the rules
		{terms("p, q, r"), "1: 0:", false},
		{terms("p, q, r"), "1: 1:", false},
		{terms("p, q, r"), "0:1 0:", false},
		{terms("p, q, r"), "0:/1 0:", false},
		{terms("p, q, r"), "0:1/2 0:1/2", false},
		{terms("p, q, r"), "0:1/2 0:1", false},
		{terms("p, q, r"), "0:1/2 0:1/0", false},
		{terms("p, q, r"), "0:1/2 0:1/0,2", false},
		{terms("p, q, r"), "0:0 0:/1", false},
		{terms("p, q, r"), "0:1 0:0,2", false},
		{terms("p, q, r"), "0:0,1 0:0", false},
		{terms("p, q, r"), "0:2 0:0,1,2", false},
		{terms("p, q, r"), "0:/2 0:/0,1", false},
		{terms("p, q, r"), "0: 1: 2: 1:0", false},
	} {
		g := api.Ground{Atoms: c.atoms, Rules: groundRules(c.rules)}
		if got := ground.Valid(g); got != c.want {
			t.Errorf("Valid(%s; %s) is %v", printer.Terms(c.atoms), c.rules, got)
		}
	}
}

// P13.3: so many ground rules as are permitted, and one more
func TestValidLimit(t *testing.T) {
	g := api.Ground{Atoms: atoms(numbered("n", 0, 300))}
	for head := range 7 {
		for i := range 300 {
			g.Rules = append(g.Rules, api.GroundRule{Head: head, Pos: []int{i}})
		}
	}
	for count, want := range map[int]bool{0: true, 2047: true, 2048: true, 2049: false, 2100: false} {
		if got := ground.Valid(api.Ground{Atoms: g.Atoms, Rules: g.Rules[:count]}); got != want {
			t.Errorf("Valid with %d rules is %v", count, got)
		}
	}
}

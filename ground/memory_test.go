package ground_test

import (
	"fmt"
	"math"
	"slices"
	"strings"
	"testing"

	"gameplayer/api"
	"gameplayer/ground"
	"gameplayer/printer"
	"gameplayer/relax"
	"gameplayer/term"
)

// roomyTerms copies terms so that all their lists have spare capacity.
func roomyTerms(l []api.Term) []api.Term {
	list := make([]api.Term, 0, len(l)+2)
	for _, t := range l {
		list = append(list, api.Term{Name: t.Name, Args: roomyTerms(t.Args)})
	}
	return list
}

// roomyRules does the same to rules.
func roomyRules(l []api.Rule) []api.Rule {
	list := make([]api.Rule, 0, len(l)+2)
	for _, r := range l {
		x := api.Rule{Head: roomyTerms([]api.Term{r.Head})[0], Body: make([]api.Literal, 0, len(r.Body)+2)}
		for _, y := range r.Body {
			x.Body = append(x.Body, api.Literal{Not: y.Not, Atom: roomyTerms([]api.Term{y.Atom})[0]})
		}
		list = append(list, x)
	}
	return list
}

// roomyGround does the same to ground rules.
func roomyGround(l []api.GroundRule) []api.GroundRule {
	list := make([]api.GroundRule, 0, len(l)+2)
	for _, r := range l {
		list = append(list, api.GroundRule{Head: r.Head, Pos: append(make([]int, 0, len(r.Pos)+2), r.Pos...), Neg: append(make([]int, 0, len(r.Neg)+2), r.Neg...)})
	}
	return list
}

// showTerms shows terms with what their lists have beyond their ends.
func showTerms(l []api.Term) string {
	text := fmt.Sprint(len(l))
	for _, t := range l[:cap(l)] {
		text += " " + t.Name + "(" + showTerms(t.Args) + ")"
	}
	return text
}

// showRules does the same for rules.
func showRules(l []api.Rule) string {
	text := fmt.Sprint(len(l))
	for _, r := range l[:cap(l)] {
		text += showTerms([]api.Term{r.Head})
		for _, y := range r.Body[:cap(r.Body)] {
			text += fmt.Sprint(len(r.Body), y.Not) + showTerms([]api.Term{y.Atom})
		}
	}
	return text
}

// showGround does the same for ground rules.
func showGround(l []api.GroundRule) string {
	text := fmt.Sprint(len(l))
	for _, r := range l[:cap(l)] {
		text += fmt.Sprint(r.Head, len(r.Pos), r.Pos[:cap(r.Pos)], len(r.Neg), r.Neg[:cap(r.Neg)])
	}
	return text
}

const mixed = "role(x). init(g(a,f(b))). legal(x,g(Y,Y)) if true(g(X,Y)). next(Y) if does(X,Y) and not true(Y) and distinct(X,Y) and role(X) and not does(X,Y). next(Y) if true(Y) and not next2(Y) and not distinct(Y,Y) and not q. q. p(h(f(c))). sees(x,f(X)) if does(x,g(X,Y)) and distinct(f(X),Y). "

// R5: arguments are not modified, nor is their spare capacity.
func TestArgumentsStay(t *testing.T) {
	l := roomyRules(read(mixed))
	list, _ := relax.Atoms(l)
	atoms := roomyTerms(list)
	before, beforeAtoms := showRules(l), showTerms(atoms)
	result, e := ground.Rules(l)
	if e != api.OK || len(result.Rules) < 5 {
		t.Fatal(result, e)
	}
	for _, r := range l {
		if _, e := ground.Instances(r, atoms); e != api.OK {
			t.Fatal(e)
		}
	}
	g := api.Ground{Atoms: atoms, Rules: roomyGround(result.Rules)}
	rules := showGround(g.Rules)
	if !ground.Valid(g) || ground.Find(g, atoms[2]) != 2 {
		t.Error("the ground description is valid")
	}
	for _, r := range g.Rules {
		ground.Text(g, r)
	}
	if showRules(l) != before || showTerms(atoms) != beforeAtoms || showGround(g.Rules) != rules {
		t.Error("arguments have changed")
	}
}

// spoil changes everything that a ground rule and its spare capacity reach.
func spoil(l ...[]int) {
	for _, list := range l {
		for i := range list[:cap(list)] {
			list[:cap(list)][i] = -7
		}
	}
}

// spoilTerms does the same to terms.
func spoilTerms(l []api.Term) {
	for i, t := range l[:cap(l)] {
		spoilTerms(t.Args)
		l[:cap(l)][i] = api.Term{Name: "spoilt"}
	}
}

// spoilt checks that spoiling one ground rule after the other leaves those that follow as they are.
func spoilt(t *testing.T, l []api.GroundRule) {
	t.Helper()
	texts := strings.Fields(short(l))
	for i, r := range l {
		if got := short(l[i : i+1]); got != texts[i] {
			t.Errorf("%s has become %s", texts[i], got)
		}
		spoil(r.Pos)
		if got := short([]api.GroundRule{{Head: r.Head, Neg: r.Neg}}); len(r.Neg) > 0 && !strings.HasSuffix(texts[i], strings.TrimPrefix(got, fmt.Sprint(r.Head, ":"))) {
			t.Errorf("Neg of %s has become %s", texts[i], got)
		}
		spoil(r.Neg)
		l[i] = api.GroundRule{Head: -7}
	}
}

// R5: results share no memory with arguments, and no two lists of a result do.
func TestResultsAreNewMemory(t *testing.T) {
	l := roomyRules(read(mixed + "n(0). n(1). n(2). e(X,Y) if n(X) and n(Y). h if e(X,Y) and n(X) and not e(Y,X) and not n(Y)."))
	before := showRules(l)
	const want = "h, q, init(g(a,f(b)))"
	for range 2 {
		g, e := ground.Rules(l)
		if e != api.OK || !strings.HasPrefix(printer.Terms(g.Atoms), want) {
			t.Fatal(printer.Terms(g.Atoms), e)
		}
		last := l[len(l)-1]
		for range 2 {
			some, e := ground.Instances(last, g.Atoms)
			if e != api.OK || len(some) != 6 || len(some[0].Pos) != 2 || len(some[0].Neg) != 2 {
				t.Fatal(short(some), e)
			}
			spoilt(t, some)
		}
		var names []string
		for _, x := range g.Atoms {
			names = append(names, term.Text(x))
		}
		for i, x := range g.Atoms {
			if got := term.Text(x); got != names[i] {
				t.Errorf("%s has become %s", names[i], got)
			}
			spoilTerms(x.Args)
		}
		spoilTerms(g.Atoms)
		spoilt(t, g.Rules)
		if showRules(l) != before {
			t.Fatal("arguments have changed")
		}
	}
}

// nested is a term with many levels.
func nested(levels int) api.Term {
	deep := f("a")
	for range levels {
		deep = f("f", deep)
	}
	return deep
}

// R1: rules, atoms and ground descriptions of any kind
func TestAnyValues(t *testing.T) {
	deep := nested(1000)
	wide := f("true", slices.Repeat([]api.Term{f("a")}, 1000)...)
	odd := []api.Term{{}, f("X"), f("10"), f("007"), f("p"), f("P"), f("p", f("X")), f("p", api.Term{}), f("X", f("a")), f("", f("b")), f("distinct"), f("distinct", f("a"), f("b")), f("distinct", f("X"), f("a")), f("goal", f("x")), wide, f("2", f("2")), f("if"), deep, f("p", deep)}
	for _, a := range odd {
		for _, b := range odd {
			for _, not := range []bool{false, true} {
				r := api.Rule{Head: a, Body: []api.Literal{{Not: not, Atom: b}, {Atom: f("p", f("X"))}}}
				for _, list := range [][]api.Term{nil, {f("p", f("a"))}, {a}, {a, b}, {b, a}} {
					l, e := ground.Instances(r, list)
					if e != api.OK && len(l) > 0 {
						t.Fatal(l, e)
					}
				}
				ground.Rules([]api.Rule{r})
				ground.Rules([]api.Rule{{Head: f("role", f("x"))}, r})
			}
			g := api.Ground{Atoms: []api.Term{a, b}, Rules: []api.GroundRule{{Head: 0, Pos: []int{1}}}}
			ground.Valid(g)
			if ground.Find(g, a) != 0 || ground.Text(g, g.Rules[0]) == "" {
				t.Fatal("Find or Text of any atoms")
			}
		}
	}
	g := api.Ground{Atoms: odd}
	for _, i := range []int{math.MinInt, -1, 0, 5, len(odd), math.MaxInt} {
		for _, r := range []api.GroundRule{{Head: i}, {Pos: []int{0, i}}, {Neg: []int{1, i}}} {
			if text := ground.Text(g, r); (text != "") != (i == 0 || i == 5) {
				t.Errorf("Text of %d is %.20s", i, text)
			}
			if ground.Valid(api.Ground{Atoms: odd[4:5], Rules: []api.GroundRule{r}}) != (r.Head == 0 && len(r.Pos)+len(r.Neg) == 0) {
				t.Errorf("Valid(%v)", r)
			}
		}
	}
}

// R1: terms with very many levels
func TestDeepTerms(t *testing.T) {
	deep := nested(1 << 16)
	g := api.Ground{Atoms: []api.Term{f("p", deep)}, Rules: []api.GroundRule{{}}}
	if ground.Valid(g) || ground.Find(g, f("p", deep)) != 0 || ground.Find(g, deep) != -1 || len(ground.Text(g, g.Rules[0])) != len("p(a).")+3<<16 {
		t.Error("a ground description")
	}
	if _, e := ground.Instances(rule("p."), g.Atoms); e != api.ErrInvalid {
		t.Error(e)
	}
	if _, e := ground.Instances(api.Rule{Head: g.Atoms[0]}, g.Atoms); e != api.ErrDepth {
		t.Error(e)
	}
	if _, e := ground.Rules([]api.Rule{{Head: f("p"), Body: []api.Literal{{Atom: deep}}}}); e != api.ErrDepth {
		t.Error(e)
	}
}

// R1: very long lists
func TestLongLists(t *testing.T) {
	list := make([]api.Term, 1<<20)
	for i := range list {
		list[i] = f("p")
	}
	numbers := make([]int, 1<<20)
	r := api.GroundRule{Pos: numbers, Neg: numbers}
	g := api.Ground{Atoms: list, Rules: slices.Repeat([]api.GroundRule{r}, 1<<12)}
	if ground.Valid(g) || ground.Valid(api.Ground{Atoms: list[:1], Rules: g.Rules[:1]}) {
		t.Error("Valid")
	}
	if text := ground.Text(g, r); len(text) != len("p if p.")+(1<<20-1)*len(" and p")+1<<20*len(" and not p") {
		t.Error(len(text))
	}
	if ground.Find(g, f("q")) != -1 {
		t.Error("Find")
	}
	if _, e := ground.Instances(rule("p."), list); e != api.ErrInvalid {
		t.Error(e)
	}
	if _, e := ground.Instances(api.Rule{Head: f("p"), Body: slices.Repeat([]api.Literal{{Atom: f("q")}}, 1<<20)}, list); e != api.ErrTooLong {
		t.Error(e)
	}
	if _, e := ground.Rules(slices.Repeat([]api.Rule{rule("p.")}, 1<<20)); e != api.ErrTooLong {
		t.Error(e)
	}
}

// R4: empty lists that are nil or not
func TestNothing(t *testing.T) {
	for _, list := range [][]api.Term{nil, {}} {
		for _, body := range [][]api.Literal{nil, {}} {
			r := api.Rule{Head: api.Term{Name: "p", Args: list}, Body: body}
			if l, e := ground.Instances(r, list); len(l) != 0 || e != api.OK {
				t.Error(l, e)
			}
			if l, e := ground.Instances(r, []api.Term{{Name: "p", Args: list}}); short(l) != "0:" || e != api.OK {
				t.Error(l, e)
			}
		}
		if ground.Find(api.Ground{Atoms: terms("p")}, api.Term{Name: "p", Args: list}) != 0 {
			t.Error("Find")
		}
	}
	for _, none := range [][]int{nil, {}} {
		g := api.Ground{Atoms: terms("p, q"), Rules: []api.GroundRule{{Head: 0, Pos: none, Neg: none}, {Head: 0, Pos: none, Neg: []int{1}}, {Head: 0, Pos: []int{1}, Neg: none}}}
		if !ground.Valid(g) || ground.Text(g, g.Rules[0]) != "p." {
			t.Error("empty lists")
		}
		g.Rules = append([]api.GroundRule{{}}, g.Rules...)
		if ground.Valid(g) {
			t.Error("the first two rules are equal")
		}
	}
	if g, e := ground.Rules([]api.Rule{}); len(g.Atoms)+len(g.Rules) != 0 || e != api.ErrRole {
		t.Error(g, e)
	}
}

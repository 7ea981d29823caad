package check_test

import (
	"fmt"
	"slices"
	"strings"
	"testing"

	"gameplayer/api"
	"gameplayer/check"
	"gameplayer/printer"
)

// roomy copies rules so that all their lists have spare capacity.
func roomy(l []api.Rule) []api.Rule {
	list := make([]api.Rule, 0, len(l)+2)
	for _, r := range l {
		x := api.Rule{Head: roomyTerm(r.Head), Body: make([]api.Literal, 0, len(r.Body)+2)}
		for _, y := range r.Body {
			x.Body = append(x.Body, api.Literal{Not: y.Not, Atom: roomyTerm(y.Atom)})
		}
		list = append(list, x)
	}
	return list
}

func roomyTerm(t api.Term) api.Term {
	x := api.Term{Name: t.Name, Args: make([]api.Term, 0, len(t.Args)+2)}
	for _, y := range t.Args {
		x.Args = append(x.Args, roomyTerm(y))
	}
	return x
}

// everything shows terms or rules with what their lists have beyond their ends.
func everything(l []api.Rule) string {
	var text strings.Builder
	var show func(t api.Term)
	show = func(t api.Term) {
		fmt.Fprint(&text, t.Name, len(t.Args), "(")
		for _, x := range t.Args[:cap(t.Args)] {
			show(x)
		}
		text.WriteString(")")
	}
	for _, r := range l[:cap(l)] {
		show(r.Head)
		for _, x := range r.Body[:cap(r.Body)] {
			fmt.Fprint(&text, x.Not)
			show(x.Atom)
		}
	}
	return text.String()
}

// R5: arguments are not modified, nor is their spare capacity.
func TestArgumentsStay(t *testing.T) {
	for _, s := range []string{
		"role(b). role(chance). role(a). role(b). p(X) if q(X,f(X)) and not p2(X). p2(a). q(a,f(a)). init(a).",
		"role(f(X,Y)). role(f(X,Y)). p(X,Y).",
		"p if not p. p(a).",
	} {
		l := roomy(read(s))
		before := everything(l)
		check.Rules(l)
		for _, r := range l {
			check.Rule(r)
		}
		check.Roles(l)
		check.Chance(l)
		check.Hidden(l)
		if everything(l) != before {
			t.Error(s)
		}
	}
}

// R5: the roles share no memory with the rules or with one another.
func TestRolesAreNewMemory(t *testing.T) {
	l := roomy(read("role(f(a,g(b))). role(f(a,g(b))). role(h(g(b))). role(c)."))
	roles := check.Roles(l)
	want := []string{"f(a,g(b))", "h(g(b))", "c"}
	var spoil func(t api.Term)
	spoil = func(t api.Term) {
		for i, x := range t.Args[:cap(t.Args)] {
			spoil(x)
			t.Args[:cap(t.Args)][i] = api.Term{Name: "spoilt"}
		}
	}
	for i, role := range roles {
		if got := printer.Terms(roles[i : i+1]); got != want[i] {
			t.Errorf("role %d is %s", i, got)
		}
		spoil(role)
	}
	if got := printer.Terms(check.Roles(l)); got != "f(a,g(b)), h(g(b)), c" {
		t.Error(got)
	}
}

// R1: terms that are nested very deeply or have very many arguments
func TestLargeTerms(t *testing.T) {
	deep, wide := nested(1<<16), f("g", slices.Repeat([]api.Term{a}, 1<<20)...)
	for _, c := range []struct {
		r    api.Rule
		want api.Errno
	}{
		{fact(deep), api.ErrDepth},
		{rule(f("p"), f("q", deep)), api.ErrDepth},
		{fact(wide), api.ErrArity},
		{rule(f("p"), f("q", a, wide)), api.ErrArity},
		{fact(f("X", deep, wide)), api.ErrName},
		{fact(f(strings.Repeat("p", 1<<20))), api.ErrName},
		{api.Rule{Head: a, Body: make([]api.Literal, 1<<20)}, api.ErrTooLong},
	} {
		if got := check.Rule(c.r); got != c.want {
			t.Errorf("Rule is %d, want %d", got, c.want)
		}
		check.Rules([]api.Rule{c.r, c.r})
		check.Roles([]api.Rule{fact(f("role", c.r.Head)), c.r})
		check.Hidden([]api.Rule{c.r})
	}
}

// R1: very many rules
func TestManyRules(t *testing.T) {
	const n = 1 << 17
	var l []api.Rule
	for i := range 2 * n {
		l = append(l, fact(f("role", f(fmt.Sprint("x", i%n)))))
	}
	l = append(l, fact(f("role", f("chance"))))
	if got := check.Roles(l); len(got) != n+1 || got[0].Name != "x0" || got[n].Name != "chance" {
		t.Error(len(got))
	}
	if got := check.Chance(l); got != n {
		t.Error(got)
	}
	if check.Hidden(l) || !check.Hidden(append(l, fact(f("sees")))) {
		t.Error("Hidden")
	}
	if at, e := check.Rules(l); at != api.MaxRules || e != api.ErrTooLong {
		t.Error(at, e)
	}
}

// R1, R4: nothing
func TestNothing(t *testing.T) {
	for _, l := range [][]api.Rule{nil, {}} {
		if at, e := check.Rules(l); at != 0 || e != api.ErrRole {
			t.Error(at, e)
		}
		if len(check.Roles(l)) != 0 || check.Chance(l) != -1 || check.Hidden(l) {
			t.Error("roles of no rules")
		}
	}
}

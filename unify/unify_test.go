package unify_test

import (
	"fmt"
	"slices"
	"strings"
	"testing"

	"gameplayer/api"
	"gameplayer/parser"
	"gameplayer/printer"
	"gameplayer/term"
	"gameplayer/unify"
)

// read reads a term.
func read(s string) api.Term {
	t, _, err := parser.Term(s)
	if err != api.OK {
		panic(s)
	}
	return t
}

// readRule reads a rule.
func readRule(s string) api.Rule {
	r, _, err := parser.Rule(s)
	if err != api.OK {
		panic(s)
	}
	return r
}

// bind makes a substitution of variables, each followed by the text of its term.
func bind(l ...string) []api.Binding {
	var s []api.Binding
	for i := 0; i < len(l); i += 2 {
		s = append(s, api.Binding{Var: l[i], Term: read(l[i+1])})
	}
	return s
}

// show is the text of a substitution.
func show(s []api.Binding) string {
	var texts []string
	for _, b := range s {
		texts = append(texts, b.Var+"="+term.Text(b.Term))
	}
	return strings.Join(texts, " ")
}

func leaf(s string) api.Term { return api.Term{Name: s} }

func fun(name string, args ...api.Term) api.Term { return api.Term{Name: name, Args: args} }

func equal(a, b api.Term) bool { return a.Name == b.Name && slices.EqualFunc(a.Args, b.Args, equal) }

func equalBindings(a, b api.Binding) bool { return a.Var == b.Var && equal(a.Term, b.Term) }

func equalLiterals(a, b api.Literal) bool { return a.Not == b.Not && equal(a.Atom, b.Atom) }

func equalRules(a, b api.Rule) bool {
	return equal(a.Head, b.Head) && slices.EqualFunc(a.Body, b.Body, equalLiterals)
}

// nested returns a term of a depth with one leaf.
func nested(depth int, name string) api.Term {
	t := leaf(name)
	for range depth - 1 {
		t = fun("f", t)
	}
	return t
}

// wide returns a valid term with 64 leaves, whose names a function gives.
func wide(name func(i int) string) api.Term {
	var args []api.Term
	for i := range 16 {
		var leaves []api.Term
		for k := range 4 {
			leaves = append(leaves, leaf(name(4*i+k)))
		}
		args = append(args, fun("f", leaves...))
	}
	p := fun("p")
	for i := range 4 {
		p.Args = append(p.Args, fun("f", args[4*i:4*i+4]...))
	}
	return p
}

// numbered returns the function that gives the names of a prefix and two digits.
func numbered(prefix string) func(int) string {
	return func(i int) string { return fmt.Sprintf("%s%02d", prefix, i) }
}

// many is a substitution of n variables whose names begin with a prefix.
func many(prefix string, n int) []api.Binding {
	var s []api.Binding
	for i := range n {
		s = append(s, api.Binding{Var: numbered(prefix)(i), Term: leaf("a")})
	}
	return s
}

// P7.1
func TestValid(t *testing.T) {
	one := func(v string, t api.Term) []api.Binding { return []api.Binding{{Var: v, Term: t}} }
	a := leaf("a")
	for _, c := range []struct {
		s    []api.Binding
		want bool
	}{
		{nil, true}, {[]api.Binding{}, true}, {bind("X", "a"), true}, {bind("X", "X"), true}, {bind("X", "Y", "Y", "X"), true}, {bind("X", "f(X)"), true},
		{bind("X", "a", "Y", "b"), true}, {bind("Y", "a", "X", "b"), false}, {bind("X", "a", "X", "a"), false}, {bind("X", "a", "X", "b"), false}, {bind("X", "a", "Z", "b", "Y", "c"), false}, {bind("X", "a", "Y", "b", "X", "a"), false},
		{bind("X", "a", "X10", "a", "X2", "a", "XY", "a", "Xa", "a"), true}, {bind("X2", "a", "X10", "a"), false}, {bind("Xa", "a", "XY", "a"), false},
		{bind("x", "a"), false}, {bind("7", "a"), false}, {bind("", "a"), false}, {bind("X-y", "a"), false}, {bind("X", "a", "f(Y)", "a"), false},
		{bind("Abcdefghijklmnop", "a"), true}, {bind("Abcdefghijklmnopq", "a"), false},
		{bind("X", "f(f(f(a)))"), true}, {one("X", nested(4, "Y")), true}, {one("X", nested(5, "a")), false}, {one("X", nested(5, "Y")), false},
		{one("X", leaf("007")), false}, {one("X", leaf("")), false}, {one("X", leaf("not")), false}, {one("X", leaf("10000")), false}, {one("X", fun("Y", a)), false}, {one("X", fun("f", a, a, a, a)), true}, {one("X", fun("f", a, a, a, a, a)), false},
		{[]api.Binding{{}}, false}, {append(bind("X", "a"), api.Binding{Var: "Y"}), false}, {append(bind("X", "a"), api.Binding{Var: "Y", Term: leaf("if")}), false},
		{many("X", 63), true}, {many("X", 64), true}, {many("X", 65), false}, {append(many("X", 63), bind("Y", "a")...), true}, {append(many("X", 63), bind("W", "a")...), false}, {make([]api.Binding, 1<<16), false},
	} {
		if got := unify.Valid(c.s); got != c.want {
			t.Errorf("Valid(%.60s) is %v", show(c.s), got)
		}
	}
}

// P7.1
func TestLookup(t *testing.T) {
	s := bind("W", "W", "X", "f(Y)", "X1", "a", "Y", "7", "Z", "g(X,f(X))")
	for _, b := range s {
		if got, ok := unify.Lookup(s, b.Var); !ok || !equal(got, b.Term) {
			t.Errorf("%s is %s, %v", b.Var, term.Text(got), ok)
		}
	}
	for _, v := range []string{"", "A", "V", "WX", "X0", "X10", "X2", "Y1", "Zz", "a", "f", "7", "not", "f(Y)"} {
		if got, ok := unify.Lookup(s, v); ok || got.Name != "" || got.Args != nil {
			t.Errorf("%q is %s, %v", v, term.Text(got), ok)
		}
		if _, ok := unify.Lookup(nil, v); ok {
			t.Errorf("%q is bound by no bindings", v)
		}
	}
	for i, b := range many("X", 64) {
		if got, ok := unify.Lookup(many("X", 64), b.Var); !ok || got.Name != "a" {
			t.Errorf("variable %d is %s, %v", i, got.Name, ok)
		}
	}
}

// P7.2: variables are replaced all at once
func TestApply(t *testing.T) {
	for _, c := range []struct {
		s       []api.Binding
		t, want string
	}{
		{nil, "p(X,Y)", "p(X,Y)"}, {nil, "X", "X"}, {nil, "a", "a"},
		{bind("X", "f(Y)", "Y", "a"), "p(X,Y)", "p(f(Y),a)"},
		{bind("X", "Y", "Y", "X"), "p(X,f(Y,X),Z)", "p(Y,f(X,Y),Z)"},
		{bind("X", "f(X)"), "X", "f(X)"}, {bind("X", "f(X)"), "f(X,X)", "f(f(X),f(X))"},
		{bind("X", "X"), "f(X)", "f(X)"}, {bind("X", "a"), "f(Y,x,X1)", "f(Y,x,X1)"},
		{bind("X", "a", "X1", "b", "X10", "c"), "p(X10,X,X1,X2)", "p(c,a,b,X2)"},
		{bind("X", "7"), "p(f(f(X)),f(X,a),X,g)", "p(f(f(7)),f(7,a),7,g)"},
		{bind("X", "f(f(f(a)))"), "f(f(f(X)))", "f(f(f(f(f(f(a))))))"},
	} {
		if got := term.Text(unify.Apply(c.s, read(c.t))); got != c.want {
			t.Errorf("Apply(%s, %s) is %s, not %s", show(c.s), c.t, got, c.want)
		}
	}
}

// P7.2: of any terms; names of functions are never replaced
func TestApplyToAnyTerms(t *testing.T) {
	s, x, a := bind("X", "a", "Y", "f(b)"), leaf("X"), leaf("a")
	for _, c := range []struct{ t, want api.Term }{
		{api.Term{}, api.Term{}}, {leaf("007"), leaf("007")}, {leaf("a b"), leaf("a b")},
		{api.Term{Name: "X", Args: []api.Term{}}, a}, {api.Term{Name: "b", Args: []api.Term{}}, leaf("b")},
		{fun("X", x), fun("X", a)}, {fun("X", fun("Y", x, leaf("Y"))), fun("X", fun("Y", a, fun("f", leaf("b"))))},
		{fun("", x, leaf(""), x, x, x, x), fun("", a, leaf(""), a, a, a, a)}, {nested(9, "X"), nested(9, "a")}, {nested(9, "Z"), nested(9, "Z")},
	} {
		if got := unify.Apply(s, c.t); !equal(got, c.want) {
			t.Errorf("Apply to %s is %s", term.Text(c.t), term.Text(got))
		}
	}
}

// P7.2
func TestApplyRule(t *testing.T) {
	s := bind("X", "f(Y)", "Y", "a")
	for rule, want := range map[string]string{
		"p.":                                     "p.",
		"p(X).":                                  "p(f(Y)).",
		"p(X) if q(Y) and not r(X).":             "p(f(Y)) if q(a) and not r(f(Y)).",
		"p(Z) if q(Z).":                          "p(Z) if q(Z).",
		"p if not r(Y) and q(X,Z) and not r(Y).": "p if not r(a) and q(f(Y),Z) and not r(a).",
		"goal(X,100) if role(X) and distinct(X,Y).": "goal(f(Y),100) if role(f(Y)) and distinct(f(Y),a).",
	} {
		if got := printer.Rule(unify.ApplyRule(s, readRule(rule))); got != want {
			t.Errorf("%s becomes %s", rule, got)
		}
	}
	odd := api.Rule{Head: leaf("X"), Body: slices.Repeat([]api.Literal{{Not: true, Atom: nested(5, "Y")}, {Atom: fun("X", leaf("Y"))}}, 9)}
	want := api.Rule{Head: read("f(Y)"), Body: slices.Repeat([]api.Literal{{Not: true, Atom: nested(5, "a")}, {Atom: fun("X", leaf("a"))}}, 9)}
	if got := unify.ApplyRule(s, odd); !equalRules(got, want) {
		t.Errorf("a rule that is not printable becomes %s", printer.Rule(got))
	}
	if got := unify.ApplyRule(s, api.Rule{}); !equalRules(got, api.Rule{}) {
		t.Errorf("the zero rule becomes %s", printer.Rule(got))
	}
}

// P7.3
func TestMatch(t *testing.T) {
	for _, c := range []struct {
		pattern, ground string
		s               []api.Binding
		want            string
		ok              bool
	}{
		{"p(X,f(Y,X))", "p(a,f(b,a))", nil, "X=a Y=b", true}, {"p(X,f(Y,X))", "p(a,f(b,c))", nil, "", false}, {"p(X,f(Y,X))", "p(a,f(b,a))", bind("Y", "c"), "", false}, {"p(X,f(Y,X))", "p(a,f(b,a))", bind("Y", "b"), "X=a Y=b", true},
		{"p", "p", nil, "", true}, {"p", "q", nil, "", false}, {"p(a)", "p(a)", bind("X", "b"), "X=b", true}, {"p(a)", "p(b)", nil, "", false}, {"7", "7", nil, "", true}, {"7", "8", nil, "", false},
		{"p(X)", "p(a,b)", nil, "", false}, {"p(X,Y)", "p(a)", nil, "", false}, {"p(X)", "p", nil, "", false}, {"p", "p(a)", nil, "", false}, {"p(X)", "q(a)", nil, "", false}, {"p(f(X))", "p(g(a))", nil, "", false}, {"p(f(X))", "p(a)", nil, "", false},
		{"X", "a", nil, "X=a", true}, {"X", "f(g(1),a)", nil, "X=f(g(1),a)", true}, {"X", "f(f(f(a)))", bind("W", "a", "Z", "b"), "W=a X=f(f(f(a))) Z=b", true},
		{"p(X,X)", "p(f(a),f(a))", nil, "X=f(a)", true}, {"p(X,X)", "p(f(a),f(b))", nil, "", false}, {"p(Z,Y,X)", "p(3,2,1)", nil, "X=1 Y=2 Z=3", true}, {"p(X2,X10)", "p(a,b)", bind("X", "c"), "X=c X10=b X2=a", true},
		{"p(X)", "p(f(a))", bind("X", "f(a)"), "X=f(a)", true}, {"p(X)", "p(f(a))", bind("X", "f(Y)"), "", false}, {"p(X,Y)", "p(f(a),a)", bind("X", "f(Y)"), "", false}, {"p(X)", "p(a)", bind("X", "X"), "", false}, {"p(X)", "p(a)", bind("X", "Y"), "", false}, {"p(X)", "p(a)", bind("Y", "X"), "X=a Y=X", true},
		{"X", "X", nil, "", false}, {"a", "X", nil, "", false}, {"p(X)", "p(Y)", nil, "", false}, {"p(X)", "p(X)", bind("X", "X"), "", false}, {"p(a,X)", "p(Y,a)", nil, "", false}, {"p(X,Y)", "p(a,f(Z))", nil, "", false},
		{"p(X)", "p(a)", bind("Z", "a", "Y", "a"), "", false}, {"p(X)", "p(a)", bind("X", "a", "X", "a"), "", false}, {"p(a)", "p(a)", bind("x", "a"), "", false}, {"p(a)", "p(a)", bind("X", "a", "X", "b"), "", false},
	} {
		s, ok := unify.Match(read(c.pattern), read(c.ground), c.s)
		if show(s) != c.want || ok != c.ok {
			t.Errorf("Match(%s, %s, %s) is %s, %v", c.pattern, c.ground, show(c.s), show(s), ok)
		}
	}
}

// P7.3: terms and substitutions that are not valid have no match
func TestMatchOfInvalidArguments(t *testing.T) {
	a, x := leaf("a"), leaf("X")
	for _, l := range [][2]api.Term{
		{{}, {}}, {x, {}}, {x, leaf("007")}, {leaf("007"), leaf("007")}, {leaf("if"), leaf("if")}, {x, nested(5, "a")}, {nested(5, "X"), nested(5, "a")}, {nested(2, "X"), nested(5, "a")}, {nested(5, "a"), nested(5, "a")}, {nested(5, "X"), nested(4, "a")},
		{fun("X", a), fun("X", a)}, {fun("X", a), fun("f", a)}, {x, fun("X", a)}, {fun("f", x, x, x, x, x), fun("f", a, a, a, a, a)}, {fun("f", leaf("X-y")), fun("f", a)}, {fun("f", leaf("")), fun("f", leaf(""))},
	} {
		if s, ok := unify.Match(l[0], l[1], nil); len(s) > 0 || ok {
			t.Errorf("Match(%s, %s) is %s, %v", term.Text(l[0]), term.Text(l[1]), show(s), ok)
		}
	}
	for _, s := range [][]api.Binding{{{}}, {{Var: "Y"}}, {{Var: "Y", Term: leaf("01")}}, {{Var: "Y", Term: nested(5, "a")}}, {{Var: "y", Term: a}}, many("Y", 65)} {
		if got, ok := unify.Match(x, a, s); len(got) > 0 || ok {
			t.Errorf("Match with %.60s is %s", show(s), show(got))
		}
	}
	if s, ok := unify.Match(api.Term{Name: "X", Args: []api.Term{}}, api.Term{Name: "a", Args: []api.Term{}}, []api.Binding{}); show(s) != "X=a" || !ok {
		t.Errorf("Match with empty lists of arguments is %s, %v", show(s), ok)
	}
}

// P7.3: the result is valid, so that it has at most 64 bindings.
func TestMatchAtTheLimit(t *testing.T) {
	constants := wide(func(i int) string { return fmt.Sprint(i) })
	s, ok := unify.Match(wide(numbered("X")), constants, nil)
	if len(s) != 64 || !ok || !unify.Valid(s) || !equal(unify.Apply(s, wide(numbered("X"))), constants) {
		t.Errorf("64 variables: %s, %v", show(s), ok)
	}
	for _, c := range []struct {
		pattern string
		s       []api.Binding
		count   int
	}{
		{"p(X)", many("Y", 63), 64}, {"p(X)", many("Y", 64), 0}, {"p(X)", many("W", 64), 0}, {"p(X00)", many("X", 64), 64}, {"p(X63)", many("X", 64), 64}, {"p(a)", many("X", 64), 64}, {"p(X64)", many("X", 64), 0}, {"p(X)", many("X", 64), 0},
	} {
		if s, ok := unify.Match(read(c.pattern), read("p(a)"), c.s); len(s) != c.count || ok != (c.count > 0) {
			t.Errorf("Match(%s) with %d bindings has %d, %v", c.pattern, len(c.s), len(s), ok)
		}
	}
	if s, ok := unify.Match(wide(numbered("X")), constants, bind("Y", "a")); len(s) > 0 || ok {
		t.Errorf("65 variables: %s, %v", show(s), ok)
	}
	if s, ok := unify.Match(wide(numbered("X")), constants, bind("X63", "63")); len(s) != 64 || !ok {
		t.Errorf("64 variables, one of them bound: %s, %v", show(s), ok)
	}
}

package check_test

import (
	"slices"
	"strings"
	"testing"

	"gameplayer/api"
	"gameplayer/check"
	"gameplayer/parser"
	"gameplayer/printer"
)

// read reads a description.
func read(s string) []api.Rule {
	l, _, e := parser.Parse(s)
	if e != api.OK {
		panic(s)
	}
	return l
}

// f makes a term or an atom.
func f(name string, args ...api.Term) api.Term { return api.Term{Name: name, Args: args} }

// fact makes a rule without a body.
func fact(head api.Term) api.Rule { return api.Rule{Head: head} }

// rule makes a rule with literals that are not negated.
func rule(head api.Term, body ...api.Term) api.Rule {
	r := api.Rule{Head: head}
	for _, t := range body {
		r.Body = append(r.Body, api.Literal{Atom: t})
	}
	return r
}

// nested is a constant within functions with one argument, of that depth.
func nested(depth int) api.Term {
	t := f("a")
	for range depth - 1 {
		t = f("f", t)
	}
	return t
}

var (
	a   = f("a")
	bad = f("007")
)

// P11.1
func TestKeyword(t *testing.T) {
	for s, want := range map[string]int{"role": 1, "init": 1, "true": 1, "does": 2, "legal": 2, "next": 1, "terminal": 0, "goal": 2, "sees": 2, "distinct": 2} {
		if n, ok := check.Keyword(s); n != want || !ok {
			t.Errorf("Keyword(%s) is %d, %v", s, n, ok)
		}
	}
	for _, s := range []string{"", "Role", "role ", "roles", "rol", "chance", "if", "and", "not", "X", "7", "\x00", "p", "base", "input", "or"} {
		if n, ok := check.Keyword(s); n != 0 || ok {
			t.Errorf("Keyword(%q) is %d, %v", s, n, ok)
		}
	}
}

// P11.2: rules that have a text
func TestRuleOfText(t *testing.T) {
	for s, want := range map[string]api.Errno{
		"p.":              api.OK,
		"p(a,b,7,f(b)).":  api.OK,
		"p if not q.":     api.OK,
		"p if p and q.":   api.OK,
		"p(X) if q(X,X).": api.OK,

		"p(true(a,b)) if q(goal,does(role)).": api.OK, // keywords are no relations here
		"role(if-x).":                         api.OK,
		"role(chance).":                       api.OK,
		"role(role).":                         api.OK,
		"role(7).":                            api.ErrRole,
		"role(f(x)).":                         api.ErrRole,
		"role(x) if p.":                       api.ErrRole,
		"role(x) if not p.":                   api.ErrRole,
		"role(7) if p.":                       api.ErrRole,
		"role(X) if role(X).":                 api.ErrRole,
		"role(X).":                            api.ErrUnsafe,
		"role(X) if not role(X).":             api.ErrUnsafe,
		"role(x,y).":                          api.ErrArity,
		"p if role(7).":                       api.OK,
		"p if role(X) and not role(f(X)).":    api.OK,

		"p(X).":                              api.ErrUnsafe,
		"p(f(f(X))).":                        api.ErrUnsafe,
		"p(X) if q(Y).":                      api.ErrUnsafe,
		"p(X) if not q(X).":                  api.ErrUnsafe,
		"p if not q(X).":                     api.ErrUnsafe,
		"p if not q(X) and r(Y).":            api.ErrUnsafe,
		"p if distinct(X,a).":                api.ErrUnsafe,
		"p if not distinct(X,a).":            api.ErrUnsafe,
		"p(X) if distinct(X,a).":             api.ErrUnsafe,
		"p if distinct(a,f(f(X))) and q(Y).": api.ErrUnsafe,
		"p if distinct(X,Y) and not q(X,Y).": api.ErrUnsafe,
		"p(X) if q(X) and distinct(X,a).":    api.OK,
		"p if not distinct(X,Y) and q(X,Y).": api.OK,
		"p(X) if not r(X) and q(f(f(X))).":   api.OK,
		"p if distinct(a,b).":                api.OK,
		"p if not distinct(a,a).":            api.OK,

		"p(A,f(B),C,D) if q(A,B,C,D) and r(E).": api.OK,
		"p if q(A,B,C) and q(D,E,F).":           api.ErrTooLarge,
		"p if q(A,B,C) and not q(D,E,F).":       api.ErrTooLarge,
		"p(A,B,C) if distinct(D,E) and q(F).":   api.ErrTooLarge,
		"role(A) if q(A,B,C) and q(D,E,F).":     api.ErrTooLarge,

		"p if a and b and c and d and e and f and g and h.": api.OK,
		"p(f(f(a)),f(f(X))) if q(f(f(X))).":                 api.OK,
	} {
		if got := check.Rule(read(s)[0]); got != want {
			t.Errorf("Rule(%s) is %d, want %d", s, got, want)
		}
	}
}

// P11.2: each keyword as a head and in a body, with each number of arguments
func TestRuleOfKeywords(t *testing.T) {
	places := map[string]string{"role": "head body", "init": "head", "true": "body", "does": "body", "legal": "head", "next": "head", "terminal": "head", "goal": "head", "sees": "head", "distinct": "body"}
	for name, permitted := range places {
		right, _ := check.Keyword(name)
		for n := range 5 {
			atom := f(name, []api.Term{a, a, a, a}[:n]...)
			for place, r := range map[string]api.Rule{"head": fact(atom), "body": rule(f("p"), f("q"), atom)} {
				want := api.OK
				switch {
				case n != right:
					want = api.ErrArity
				case !strings.Contains(permitted, place):
					want = api.ErrKeyword
				}
				if got := check.Rule(r); got != want {
					t.Errorf("Rule(%s) is %d, want %d", printer.Rule(r), got, want)
				}
				if place == "body" {
					r.Body[1].Not = true
					if got := check.Rule(r); got != want {
						t.Errorf("Rule(%s) is %d, want %d", printer.Rule(r), got, want)
					}
				}
			}
		}
	}
}

// P11.2: names
func TestRuleOfNames(t *testing.T) {
	for name, kind := range map[string]string{
		"p": "name", "if-": "name", "a234567890123456": "name", "a2345678901234567": "", "if": "", "and": "", "not": "", "": "", "a_b": "", "-a": "", "aB": "", "a b": "", "a(b)": "", "ä": "", "a\x00": "",
		"0": "number", "9999": "number", "10000": "", "007": "", "-1": "", "1.0": "", "99999999999999999999": "",
		"X": "variable", "Xy1": "variable", "A234567890123456": "variable", "A2345678901234567": "", "X-y": "", "_": "",
	} {
		q := f("q", f("X"), f(name))
		for _, c := range []struct {
			r         api.Rule
			permitted string
		}{
			{fact(f(name)), "name"},
			{fact(f(name, a)), "name"},
			{fact(f("p", f(name, a))), "name"},
			{fact(f("p", f("g", f(name, a)))), "name"},
			{rule(f("p"), f(name)), "name"},
			{rule(f("p"), a, f(name, a)), "name"},
			{rule(f("p"), f("q", f(name, a))), "name"},
			{rule(f("p", f(name)), q), "name number variable"},
			{rule(f("p", f("g", f("g", f(name)))), q), "name number variable"},
			{rule(f("p"), a, q), "name number variable"},
			{rule(f("p"), q, f("distinct", f(name), f("g", f(name)))), "name number variable"},
		} {
			want := api.ErrName
			if kind != "" && strings.Contains(c.permitted, kind) {
				want = api.OK
			}
			if got := check.Rule(c.r); got != want {
				t.Errorf("Rule(%s) is %d, want %d", printer.Rule(c.r), got, want)
			}
		}
	}
}

// P11.2: the limits of arguments, depth and literals
func TestRuleLimits(t *testing.T) {
	five := []api.Term{a, a, a, a, a}
	for _, c := range []struct {
		r    api.Rule
		want api.Errno
	}{
		{fact(f("p", five[:4]...)), api.OK},
		{fact(f("p", five...)), api.ErrArity},
		{fact(f("p", f("f", five[:4]...))), api.OK},
		{fact(f("p", f("f", five...))), api.ErrArity},
		{fact(f("p", a, f("f", a, f("f", five...)))), api.ErrArity},
		{rule(f("p"), a, f("q", five...)), api.ErrArity},
		{rule(f("p"), a, f("q", a, f("f", five...))), api.ErrArity},
		{fact(nested(4)), api.OK},
		{fact(nested(5)), api.ErrDepth},
		{fact(f("p", a, nested(3))), api.OK},
		{fact(f("p", a, nested(4))), api.ErrDepth},
		{fact(f("next", nested(3))), api.OK},
		{fact(f("next", nested(4))), api.ErrDepth},
		{rule(f("p"), a, nested(5)), api.ErrDepth},
		{rule(f("p"), f("distinct", a, nested(4))), api.ErrDepth},
		{rule(f("p"), make([]api.Term, 9)...), api.ErrTooLong},
		{rule(api.Term{}, slices.Repeat([]api.Term{a}, 9)...), api.ErrTooLong},
		{rule(f("p"), slices.Repeat([]api.Term{a}, 8)...), api.OK},
		{api.Rule{}, api.ErrName},
		{rule(f("p"), api.Term{}), api.ErrName},
		{fact(f("p", api.Term{})), api.ErrName},
		{api.Rule{Head: api.Term{Name: "p", Args: []api.Term{}}, Body: []api.Literal{}}, api.OK},
		{api.Rule{Head: api.Term{Name: "role", Args: []api.Term{{Name: "x", Args: []api.Term{}}}}, Body: []api.Literal{}}, api.OK},
	} {
		if got := check.Rule(c.r); got != c.want {
			t.Errorf("Rule(%s) is %d, want %d", printer.Rule(c.r), got, c.want)
		}
	}
}

// P11.2: the order of the errors
func TestRuleErrorsInOrder(t *testing.T) {
	x, five := f("X"), []api.Term{a, a, a, a, a}
	for _, c := range []struct {
		r    api.Rule
		want api.Errno
	}{
		// within an atom
		{fact(f("p", append(slices.Clone(five), bad)...)), api.ErrName},
		{fact(f("p", f("f", f("f", f("f", f("f", bad)))))), api.ErrName},
		{fact(f("p", f("f", append(slices.Clone(five), bad)...))), api.ErrName},
		{fact(f("p", nested(9), f("f", five...))), api.ErrArity},
		{fact(f("p", f("f", f("f", f("f", f("f", five...)))))), api.ErrArity},
		{fact(f("goal", nested(4))), api.ErrArity},
		{fact(f("true", a, a)), api.ErrArity},
		{fact(f("true", bad)), api.ErrName},
		{fact(f("true", nested(4))), api.ErrDepth},
		{fact(f("does", x, nested(4))), api.ErrDepth},
		{rule(f("p"), f("next", nested(4))), api.ErrDepth},
		{rule(f("p"), f("next", a, a)), api.ErrArity},
		{rule(f("p"), f("next", bad, a)), api.ErrName},
		// atoms from the left
		{rule(f("p", five...), f("q", bad)), api.ErrArity},
		{rule(nested(5), f("q", bad)), api.ErrDepth},
		{rule(f("true", a), f("q", bad)), api.ErrKeyword},
		{rule(f("p"), f("next", a), f("q", bad)), api.ErrKeyword},
		{rule(f("p"), nested(5), f("q", five...)), api.ErrDepth},
		{rule(f("p"), f("role", x, x), f("next", a)), api.ErrArity},
		{rule(f("p"), f("next", a), f("role", x, x)), api.ErrKeyword},
		{rule(f("p"), a, a, a, a, a, a, a, f("sees", a, a)), api.ErrKeyword},
		// atoms before the rule as a whole
		{rule(f("p", f("A"), f("B"), f("C"), f("D")), f("q", f("E"), f("F")), f("next", a)), api.ErrKeyword},
		{rule(f("p", x), nested(5)), api.ErrDepth},
		{rule(f("role", bad), f("q")), api.ErrName},
		{rule(f("role", f("f", x)), f("next", x)), api.ErrKeyword},
		{rule(f("role"), f("q")), api.ErrArity},
		// variables
		{fact(f("role", f("g", f("A"), f("B"), f("C"), f("g", f("D"), f("E"), f("F"))))), api.ErrTooLarge},
		{fact(f("role", f("g", f("A"), f("B"), f("C"), f("g", f("D"), f("E"), f("A"))))), api.ErrUnsafe},
		{fact(f("p", f("A"), f("B"), f("g", f("C"), f("D")), f("g", f("E"), f("F")))), api.ErrTooLarge},
		{rule(f("role", x), f("q")), api.ErrUnsafe},
		{rule(f("role", x), f("q", x)), api.ErrRole},
	} {
		if got := check.Rule(c.r); got != c.want {
			t.Errorf("Rule(%s) is %d, want %d", printer.Rule(c.r), got, c.want)
		}
	}
}

// P11.3
func TestRules(t *testing.T) {
	for _, c := range []struct {
		s  string
		at int
		e  api.Errno
	}{
		{"role(x).", 0, api.OK},
		{"", 0, api.ErrRole},
		{"p.", 0, api.ErrRole},
		{"p if role(x).", 0, api.ErrRole},
		{"role(chance).", 0, api.ErrRole},
		{"role(chance). p. role(chance).", 0, api.ErrRole},
		{"role(chance). role(x).", 0, api.OK},
		{"role(x). role(x).", 0, api.OK},
		{"role(a). role(b). role(c). role(d).", 0, api.OK},
		{"role(a). role(b). role(c). role(d). role(e).", 0, api.ErrRole},
		{"role(a). role(b). role(c). role(b). role(a). role(chance).", 0, api.OK},
		{"role(a). role(b). role(c). role(chance). role(e).", 0, api.ErrRole},

		{"role(x). p. p(X). q(X).", 2, api.ErrUnsafe},
		{"role(x). true(a). p(X).", 1, api.ErrKeyword},
		{"p(X).", 0, api.ErrUnsafe},
		{"role(7).", 0, api.ErrRole},
		{"p. role(7). role(X).", 1, api.ErrRole},

		{"role(x). p(a). p.", 2, api.ErrArity},
		{"role(x). p(a). q if p(a). q if not p.", 3, api.ErrArity},
		{"role(x). p if p(a).", 1, api.ErrArity},
		{"role(x). p if q(a) and q.", 1, api.ErrArity},
		{"role(x). p if q and not q(a,b).", 1, api.ErrArity},
		{"role(x). p if q(a). q. p(a).", 2, api.ErrArity},
		{"p(a). p.", 1, api.ErrArity},
		{"p(a). p. q(X).", 2, api.ErrUnsafe},
		{"p if p(a). role(X).", 1, api.ErrUnsafe},
		{"role(x). p(f(a)). q(f(a,b),f). f(a).", 0, api.OK}, // functions may differ

		{"role(x). init(a) if true(a).", 0, api.ErrDepends},
		{"role(x). init(a) if does(x,a).", 0, api.ErrDepends},
		{"role(x). init(a) if not true(a).", 0, api.ErrDepends},
		{"role(x). init(a) if not p. p if q. q if does(x,a).", 0, api.ErrDepends},
		{"role(x). init(a) if p. p if q and role(x). q if not true(a).", 0, api.ErrDepends},
		{"role(x). init(a) if p and role(x) and distinct(a,b). p.", 0, api.OK},
		{"role(x). legal(x,a) if p. p if does(x,a).", 0, api.ErrDepends},
		{"role(x). legal(x,a) if not does(x,a).", 0, api.ErrDepends},
		{"role(x). legal(x,a) if p and true(a). p if true(a).", 0, api.OK},
		{"role(x). terminal if p. p if not does(x,a).", 0, api.ErrDepends},
		{"role(x). terminal if not true(a).", 0, api.OK},
		{"role(x). goal(x,1) if does(x,a).", 0, api.ErrDepends},
		{"role(x). goal(x,1) if p and true(a). p if q. q if p and does(x,a).", 0, api.ErrDepends},
		{"role(x). goal(x,1) if true(a).", 0, api.OK},
		{"role(x). next(a) if does(x,a) and true(a). sees(x,b) if does(x,b) and true(b). p if does(x,b).", 0, api.OK},

		{"role(x). p if not p.", 0, api.ErrCycle},
		{"role(x). p if not q. q if p.", 0, api.ErrCycle},
		{"role(x). p if not q. q if r. r if q.", 0, api.OK},
		{"role(x). p if not q. q if p. goal(x,1) if does(x,a).", 0, api.ErrDepends},
		{"p if not q. q if p. goal(x,1) if does(x,a).", 0, api.ErrRole},
		{"p if not q. q if p. goal(x,1) if does(x,a). p(a).", 3, api.ErrArity},
		{"init(a) if true(a). role(chance).", 0, api.ErrRole},
		{"role(x). next(a) if not next(a).", 1, api.ErrKeyword},
		{"role(x). next(a) if not p. p if not true(a).", 0, api.OK},
	} {
		if at, e := check.Rules(read(c.s)); at != c.at || e != c.e {
			t.Errorf("Rules(%s) is %d, %d, want %d, %d", c.s, at, e, c.at, c.e)
		}
	}
}

// P11.3: the number of rules
func TestRulesLimit(t *testing.T) {
	for _, c := range []struct {
		l  []api.Rule
		at int
		e  api.Errno
	}{
		{slices.Repeat(read("role(x)."), 128), 0, api.OK},
		{slices.Repeat(read("role(x)."), 129), 128, api.ErrTooLong},
		{make([]api.Rule, 129), 128, api.ErrTooLong},
		{make([]api.Rule, 128), 0, api.ErrName},
		{append(slices.Repeat(read("p."), 127), read("p(X).")...), 127, api.ErrUnsafe},
		{append(slices.Repeat(read("p."), 127), read("p(a).")...), 127, api.ErrArity},
	} {
		if at, e := check.Rules(c.l); at != c.at || e != c.e {
			t.Errorf("Rules of %d rules is %d, %d, want %d, %d", len(c.l), at, e, c.at, c.e)
		}
	}
}

// P11.4
func TestRolesAndChance(t *testing.T) {
	for _, c := range []struct {
		s, roles string
		chance   int
	}{
		{"", "", -1},
		{"p. init(a). legal(x,a). true(role(x)).", "", -1},
		{"role(x).", "x", -1},
		{"role(chance).", "chance", 0},
		{"role(b). role(chance). role(a). role(b). sees(a,x). role(c) if p.", "b, chance, a", 1},
		{"role(z). role(y). role(z). role(x). role(y). role(w).", "z, y, x, w", -1},
		{"role(a). role(b). role(c). role(d). role(e). role(chance).", "a, b, c, d, e, chance", 5},
		{"role(10). role(2). role(X). role(f(X)). role(f(a)). role(2). role(f(X)).", "10, 2, X, f(X), f(a)", -1},
		{"role(chance(a)). role(f(chance)).", "chance(a), f(chance)", -1},
		{"role(chance) if p. role(chance) if not p.", "", -1},
		{"p if role(chance).", "", -1},
		{"role. role(a,b). role(chance,chance).", "", -1},
	} {
		l := read(c.s)
		if got := printer.Terms(check.Roles(l)); got != c.roles {
			t.Errorf("Roles(%s) is %s, want %s", c.s, got, c.roles)
		}
		if got := check.Chance(l); got != c.chance {
			t.Errorf("Chance(%s) is %d, want %d", c.s, got, c.chance)
		}
	}
}

// P11.4: rules that no text has
func TestRolesOfAnyRules(t *testing.T) {
	empty := api.Rule{Head: f("role", f("a,b")), Body: []api.Literal{}}
	l := []api.Rule{fact(f("role", bad)), {}, fact(f("role", api.Term{})), empty, fact(f("role", bad)), fact(f("role", f("p", a, a, a, a, a))), fact(f("", a)), fact(f("role", api.Term{Name: "chance", Args: []api.Term{}})), fact(f("role", f("chance")))}
	if got := printer.Terms(check.Roles(l)); got != "007, , a,b, p(a,a,a,a,a), chance" {
		t.Error(got)
	}
	if got := check.Chance(l); got != 4 {
		t.Error(got)
	}
	if check.Hidden(l) {
		t.Error("Hidden")
	}
}

// P11.4
func TestHidden(t *testing.T) {
	for s, want := range map[string]bool{
		"": false, "role(x).": false, "p if sees(a,x).": false, "p(sees(a,x)).": false, "p if not sees(a,x).": false,
		"sees(a,x).": true, "sees(a,x) if p.": true, "role(x). p. sees(X,Y) if not p.": true, "sees.": true, "sees(a).": true,
	} {
		if got := check.Hidden(read(s)); got != want {
			t.Errorf("Hidden(%s) is %v", s, got)
		}
	}
}

// the examples of the chapter
func TestExamples(t *testing.T) {
	if got := check.Rule(fact(f("next", nested(4)))); got != api.ErrDepth {
		t.Error(got)
	}
	if got := check.Rule(fact(f("next", bad))); got != api.ErrName {
		t.Error(got)
	}
	for s, want := range map[string]api.Errno{
		"p(X) if not q(X).": api.ErrUnsafe, "p if distinct(X,a).": api.ErrUnsafe, "p(X) if q(X) and distinct(X,a).": api.OK,
		"true(a).": api.ErrKeyword, "goal(x).": api.ErrArity, "role(7).": api.ErrRole, "role(x) if p.": api.ErrRole, "role(X).": api.ErrUnsafe, "p if next(X).": api.ErrKeyword,
	} {
		if got := check.Rule(read(s)[0]); got != want {
			t.Errorf("Rule(%s) is %d, want %d", s, got, want)
		}
	}
	for s, want := range map[string]api.Errno{"role(x). p(a). p.": api.ErrArity, "role(chance).": api.ErrRole, "role(x). legal(x,a) if p. p if does(x,a).": api.ErrDepends} {
		at, e := check.Rules(read(s))
		if e != want || (at == 2) != (want == api.ErrArity) {
			t.Errorf("Rules(%s) is %d, %d", s, at, e)
		}
	}
}

package unify_test

import (
	"fmt"
	"slices"
	"strings"
	"testing"

	"gameplayer/api"
	"gameplayer/printer"
	"gameplayer/term"
	"gameplayer/unify"
)

// P7.4, P7.10
func TestUnify(t *testing.T) {
	for _, c := range []struct {
		a, b, want string
		ok         bool
	}{
		{"p(X,Y)", "p(Y,a)", "X=a Y=a", true}, {"p(Y)", "p(X)", "Y=X", true}, {"X", "f(X)", "", false}, {"X", "X", "", true},
		{"a", "a", "", true}, {"a", "b", "", false}, {"7", "7", "", true}, {"7", "8", "", false}, {"X", "a", "X=a", true}, {"X", "f(Y,1)", "X=f(Y,1)", true},
		{"f(X)", "g(X)", "", false}, {"f(X)", "f(X,X)", "", false}, {"f(X)", "f", "", false}, {"p(a,X)", "p(b,X)", "", false}, {"p(X,a)", "p(b,X)", "", false}, {"p(f(X))", "p(f(f(X)))", "", false},
		{"p(X,Y,Z)", "p(Y,Z,X)", "Y=X Z=X", true}, {"p(Z,Y,X)", "p(Y,X,W)", "X=W Y=W Z=W", true}, {"p(X2,X10)", "p(X10,X)", "X10=X X2=X", true}, {"p(Xa)", "p(XB)", "Xa=XB", true},
		{"p(W,X)", "p(Y,Z)", "Y=W Z=X", true}, {"p(W,X,W)", "p(Y,Z,Z)", "X=W Y=W Z=W", true}, {"p(A,B,A,C)", "p(C,D,a,C)", "A=a C=a D=B", true},
		{"p(X,f(X))", "p(Y,Y)", "", false}, {"p(X,Y)", "p(f(Y),f(X))", "", false}, {"p(X,Y,Z)", "p(f(Y),f(Z),f(X))", "", false}, {"p(X,Y,X)", "p(f(Y),f(X),a)", "", false}, {"p(X,X,Y)", "p(f(f(Y)),f(Y),f(Y))", "", false},
		{"p(X,Y,X)", "p(f(Y),Z,f(a))", "X=f(a) Y=a Z=a", true}, {"p(X,Y,X)", "p(f(Y),Z,f(W))", "X=f(W) Y=W Z=W", true}, {"p(X,X)", "p(f(A,b),f(a,B))", "A=a B=b X=f(a,b)", true}, {"p(X,Y,X)", "p(f(A),f(B),Y)", "B=A X=f(A) Y=f(A)", true},
		{"p(A,B,C,D)", "p(f(B),f(C),f(D),a)", "A=f(f(f(a))) B=f(f(a)) C=f(a) D=a", true}, {"p(A,B,C,D)", "p(f(B),f(C),f(D),f(a))", "", false}, {"p(A,B,C)", "p(f(B),f(C),f(D))", "A=f(f(f(D))) B=f(f(D)) C=f(D)", true},
		{"p(X,f(f(X)))", "p(f(f(a)),Y)", "", false}, {"p(X,f(X))", "p(f(f(a)),Y)", "X=f(f(a)) Y=f(f(f(a)))", true}, {"p(X,f(f(X)))", "p(f(f(a)),f(f(Y)))", "X=f(f(a)) Y=f(f(a))", true}, {"X", "f(f(f(Y)))", "X=f(f(f(Y)))", true},
		{"p(A,B,C)", "p(f(B,B,B,B),f(C,C,C,C),f(d,d,d,d))", "A=" + bush(3) + " B=" + bush(2) + " C=" + bush(1), true},
	} {
		s, ok := unify.Unify(read(c.a), read(c.b))
		u, again := unify.Unify(read(c.b), read(c.a))
		if show(s) != c.want || ok != c.ok || show(u) != c.want || again != c.ok {
			t.Errorf("Unify(%s, %s) is %s, %v, and the other way %s, %v", c.a, c.b, show(s), ok, show(u), again)
		}
	}
}

// bush is the text of a term with 4 arguments at each place above its leaves.
func bush(height int) string {
	if height == 0 {
		return "d"
	}
	return "f(" + strings.Repeat(bush(height-1)+",", 3) + bush(height-1) + ")"
}

// P7.4: terms that are not valid have no unifier
func TestUnifyOfInvalidTerms(t *testing.T) {
	a, x := leaf("a"), leaf("X")
	for _, bad := range []api.Term{
		{}, leaf("007"), leaf("not"), leaf("a b"), leaf("X-y"), leaf("10000"), leaf("Abcdefghijklmnopq"), fun("X", a), fun("7", a), fun("if", x), fun("f", leaf("")), fun("f", x, fun("X", a)), fun("f", a, a, a, a, a), nested(5, "a"), nested(5, "X"),
	} {
		for _, other := range []api.Term{bad, x, leaf("Y"), a, fun("f", x), nested(4, "Z")} {
			s, ok := unify.Unify(bad, other)
			u, again := unify.Unify(other, bad)
			if len(s) > 0 || ok || len(u) > 0 || again {
				t.Errorf("Unify(%s, %s) is %s, %v, and the other way %s, %v", term.Text(bad), term.Text(other), show(s), ok, show(u), again)
			}
		}
	}
	empty := api.Term{Name: "X", Args: []api.Term{}}
	if s, ok := unify.Unify(fun("f", empty), fun("f", api.Term{Name: "a", Args: []api.Term{}})); show(s) != "X=a" || !ok {
		t.Errorf("Unify with empty lists of arguments is %s, %v", show(s), ok)
	}
	if s, ok := unify.Unify(empty, x); len(s) > 0 || !ok {
		t.Errorf("Unify of equal variables is %s, %v", show(s), ok)
	}
}

// P7.4: with as many variables as terms can have
func TestUnifyOfWideTerms(t *testing.T) {
	x, y := wide(numbered("X")), wide(numbered("Y"))
	constants := wide(func(i int) string { return fmt.Sprint(i) })
	s, ok := unify.Unify(x, constants)
	if len(s) != 64 || !ok || s[63].Term.Name != "63" {
		t.Errorf("variables and constants: %s, %v", show(s), ok)
	}
	s, ok = unify.Unify(y, x)
	if len(s) != 64 || !ok || s[0].Var != "Y00" || s[63].Term.Name != "X63" {
		t.Errorf("variables and variables: %s, %v", show(s), ok)
	}
	ring := wide(func(i int) string { return numbered("X")((i + 1) % 64) })
	s, ok = unify.Unify(ring, x)
	if len(s) != 63 || !ok || s[0].Var != "X01" || slices.ContainsFunc(s, func(b api.Binding) bool { return b.Term.Name != "X00" }) {
		t.Errorf("a ring of variables: %s, %v", show(s), ok)
	}
	deeper := wide(func(i int) string { return numbered("X")(min(i+1, 63)) })
	for i := range deeper.Args[0].Args[0].Args {
		deeper.Args[0].Args[0].Args[i] = leaf("X00")
	}
	x.Args[0].Args[0] = leaf("X00")
	if s, ok := unify.Unify(x, deeper); len(s) > 0 || ok {
		t.Errorf("a variable in itself: %s, %v", show(s), ok)
	}
}

// P7.4: two chains of variables that become terms of great size are refused in little time.
func TestUnifyOfChains(t *testing.T) {
	chain := func(prefix string, levels int) (l, m []api.Term) {
		for i := range levels {
			next := leaf(numbered(prefix)(i + 1))
			l = append(l, leaf(numbered(prefix)(i)))
			m = append(m, fun("f", next, next, next, next))
		}
		return l, m
	}
	pack := func(l []api.Term) api.Term {
		p := fun("p")
		for part := range slices.Chunk(l, 4) {
			p.Args = append(p.Args, fun("q", part...))
		}
		return p
	}
	l, m := chain("X", 7)
	n, o := chain("Y", 7)
	x, y := slices.Concat(l, n, []api.Term{leaf("X00")}), slices.Concat(m, o, []api.Term{leaf("Y00")})
	if s, ok := unify.Unify(pack(x), pack(y)); len(s) > 0 || ok {
		t.Errorf("chains of depth 8: %s, %v", show(s), ok)
	}
	l, m = chain("X", 3)
	n, o = chain("Y", 3)
	x, y = slices.Concat(l, n, []api.Term{leaf("X00")}), slices.Concat(m, o, []api.Term{leaf("Y00")})
	s, ok := unify.Unify(pack(x), pack(y))
	if len(s) != 7 || !ok || term.Size(s[0].Term) != 85 || s[3].Var != "Y00" || s[6].Term.Name != "X03" {
		t.Errorf("chains of depth 4: %s, %v", show(s), ok)
	}
}

// P7.5
func TestCompose(t *testing.T) {
	for _, c := range []struct {
		s, t []api.Binding
		want string
	}{
		{nil, nil, ""}, {[]api.Binding{}, nil, ""}, {bind("X", "X"), nil, ""}, {nil, bind("X", "X"), ""}, {bind("X", "a"), nil, "X=a"}, {nil, bind("X", "a"), "X=a"},
		{bind("X", "Y"), bind("Y", "X"), "Y=X"}, {bind("X", "Y", "Y", "X"), bind("X", "Y", "Y", "X"), ""}, {bind("X", "Y"), bind("X", "Z", "Y", "X"), "Y=X"},
		{bind("X", "f(Y)"), bind("Y", "a", "Z", "b"), "X=f(a) Y=a Z=b"}, {bind("X", "a"), bind("X", "b"), "X=a"}, {bind("X", "X"), bind("X", "b"), "X=b"}, {bind("X", "Y"), bind("X", "b"), "X=Y"}, {bind("Z", "X"), bind("X", "a"), "X=a Z=a"},
		{bind("X", "f(X)"), bind("X", "f(X)"), "X=f(f(X))"}, {bind("X", "f(Y)", "Y", "f(X)"), bind("X", "Y", "Y", "X"), "X=f(X) Y=f(Y)"},
		{bind("X2", "a"), bind("X10", "b"), "X10=b X2=a"}, {bind("X", "f(f(f(Y)))"), bind("Y", "f(f(f(a)))"), "X=f(f(f(f(f(f(a)))))) Y=f(f(f(a)))"},
	} {
		if got := show(unify.Compose(c.s, c.t)); got != c.want {
			t.Errorf("Compose(%s, %s) is %s", show(c.s), show(c.t), got)
		}
	}
	got := unify.Compose(many("Y", 64), many("X", 64))
	if !slices.EqualFunc(got, append(many("X", 64), many("Y", 64)...), equalBindings) {
		t.Errorf("Compose with 64 bindings each is %s", show(got))
	}
}

// P7.6
func TestRename(t *testing.T) {
	for _, c := range []struct{ rule, prefix, want string }{
		{"p(X) if q(Z,X).", "V", "p(V1) if q(V2,V1)."}, {"p(X) if q(Z,X).", "v", ""}, {"p(X) if q(Z,X).", "", ""}, {"p(X) if q(Z,X).", "7", ""}, {"p(X) if q(Z,X).", "V-", ""}, {"p(X).", "V ", ""}, {"p(X).", "V1", "p(V11)."},
		{"p(V2,V1).", "V", "p(V1,V2)."}, {"p(V2) if q(V3) and q(V1).", "V", "p(V1) if q(V2) and q(V3)."}, {"p if not q(B) and r(A,B).", "Xy", "p if not q(Xy1) and r(Xy2,Xy1)."}, {"p(f(C,g(B)),A) if q(B,D).", "A", "p(f(A1,g(A2)),A3) if q(A2,A4)."},
		{"p(a).", "V", "p(a)."}, {"p(a).", "v", "p(a)."}, {"p if not q and r(1).", "", "p if not q and r(1)."}, {"p.", "not a prefix", "p."},
		{"p(X).", "Abcdefghijklmno", "p(Abcdefghijklmno1)."}, {"p(X).", "Abcdefghijklmnop", ""}, {"p(x,X,x1,X1).", "X", "p(x,X1,x1,X2)."},
		{"p(A,B,C,D) if q(E,F,G,H) and r(I).", "Abcdefghijklmno", "p(Abcdefghijklmno1,Abcdefghijklmno2,Abcdefghijklmno3,Abcdefghijklmno4) if q(Abcdefghijklmno5,Abcdefghijklmno6,Abcdefghijklmno7,Abcdefghijklmno8) and r(Abcdefghijklmno9)."},
		{"p(A,B,C,D) if q(E,F,G,H) and r(I,J).", "Abcdefghijklmno", ""}, {"p(A,B,C,D) if q(E,F,G,H) and r(I,J,A,B).", "V", "p(V1,V2,V3,V4) if q(V5,V6,V7,V8) and r(V9,V10,V1,V2)."},
	} {
		got, ok := unify.Rename(readRule(c.rule), c.prefix)
		if c.want == "" {
			if ok || !equalRules(got, api.Rule{}) {
				t.Errorf("%s with the prefix %s becomes %s, %v", c.rule, c.prefix, printer.Rule(got), ok)
			}
		} else if !ok || printer.Rule(got) != c.want {
			t.Errorf("%s with the prefix %s becomes %s, %v", c.rule, c.prefix, printer.Rule(got), ok)
		}
	}
}

// P7.6: of any rule
func TestRenameAnyRule(t *testing.T) {
	body := slices.Repeat([]api.Literal{{Not: true, Atom: fun("Y", leaf("Y"), leaf("007"), leaf(""))}, {Atom: nested(6, "X")}}, 20)
	want := slices.Repeat([]api.Literal{{Not: true, Atom: fun("Y", leaf("V2"), leaf("007"), leaf(""))}, {Atom: nested(6, "V1")}}, 20)
	if got, ok := unify.Rename(api.Rule{Head: leaf("X"), Body: body}, "V"); !ok || !equalRules(got, api.Rule{Head: leaf("V1"), Body: want}) {
		t.Errorf("a rule that is not printable becomes %s, %v", printer.Rule(got), ok)
	}
	for _, r := range []api.Rule{{}, {Head: leaf("X-y"), Body: make([]api.Literal, 9)}, {Head: fun("X", leaf("7"))}} {
		if got, ok := unify.Rename(r, "\n"); !ok || !equalRules(got, r) {
			t.Errorf("a rule without variables becomes %s, %v", printer.Rule(got), ok)
		}
	}
	if got, ok := unify.Rename(api.Rule{Head: api.Term{Name: "X", Args: []api.Term{}}}, "Y"); !ok || got.Head.Name != "Y1" {
		t.Errorf("a variable with an empty list of arguments becomes %s, %v", printer.Rule(got), ok)
	}
	several := func(name func(i int) string) api.Rule {
		r := api.Rule{Head: leaf("p")}
		for i := range 300 {
			r.Body = append(r.Body, api.Literal{Atom: fun("q", leaf(name(i+1)))})
		}
		return r
	}
	old := several(func(i int) string { return fmt.Sprint("V", 1000-i) })
	if got, ok := unify.Rename(old, "V"); !ok || !equalRules(got, several(func(i int) string { return fmt.Sprint("V", i) })) {
		t.Error("300 variables become", printer.Rule(got), ok)
	}
}

package join_test

import (
	"testing"

	"gameplayer/api"
	"gameplayer/join"
	"gameplayer/parser"
	"gameplayer/printer"
	"gameplayer/term"
)

// read reads a term.
func read(s string) api.Term {
	t, _, e := parser.Term(s)
	if e != api.OK {
		panic(s)
	}
	return t
}

// Equal terms have equal numbers, from which the terms are made again.
func TestTerms(t *testing.T) {
	n := join.NewTerms()
	numbers := map[int]string{}
	for _, s := range []string{"a", "f(a)", "f(f(a))", "f(a,a)", "p(f(a),10,f(f(a)))", "10", "p", "g(a)"} {
		number := n.Add(join.NewPattern(read(s), nil), join.Row{})
		if known, met := numbers[number]; met || number < 1 {
			t.Errorf("%s has the number %d of %s", s, number, known)
		}
		numbers[number] = s
	}
	for number, s := range numbers {
		x := read(s)
		name, args := n.Head(number)
		if n.Add(join.NewPattern(x, nil), join.Row{}) != number || n.Number(join.NewPattern(x, nil), join.Row{}) != number {
			t.Errorf("%s has another number", s)
		}
		if got := n.Term(number); term.Compare(got, x) != 0 || n.Text(number) != s || name != x.Name || args != len(x.Args) || n.Depth(join.NewPattern(x, nil), join.Row{}) != term.Depth(x) {
			t.Errorf("%s is %s, %s, %s with %d arguments", s, term.Text(got), n.Text(number), name, args)
		}
	}
	if number := n.Number(join.NewPattern(read("f(g(a))"), nil), join.Row{}); number != 0 {
		t.Error(number)
	}
}

// A pattern matches what it becomes with a row.
func TestMatch(t *testing.T) {
	n := join.NewTerms()
	vars := []string{"X", "Y", ""}
	for _, c := range []struct{ pattern, atom, want string }{
		{"p(X,f(Y))", "p(a,f(b))", "a b"}, {"p(X,f(Y))", "p(f(a),f(f(b)))", "f(a) f(b)"}, {"p(X,X)", "p(f(a),f(a))", "f(a) "}, {"p(Y,a)", "p(b,a)", " b"}, {"p(a)", "p(a)", " "}, {"p", "p", " "},
		{"p(X,X)", "p(f(a),a)", ""}, {"p(f(X),X)", "p(f(a),f(a))", ""}, {"p(f(X))", "p(a)", ""}, {"p(f(X))", "p(f(a,a))", ""}, {"p(X)", "q(a)", ""}, {"p(X)", "p(a,a)", ""}, {"p(a)", "p(b)", ""},
	} {
		p := join.NewPattern(read(c.pattern), vars)
		number := n.Add(join.NewPattern(read(c.atom), nil), join.Row{})
		r, ok := n.Match(p, number)
		got := ""
		if ok {
			got = n.Text(r[0]) + " " + n.Text(r[1])
		}
		if got != c.want {
			t.Errorf("Match(%s, %s) is %q, want %q", c.pattern, c.atom, got, c.want)
		}
		if ok && (n.Add(p, r) != number || string(n.AppendText(nil, p, r)) != c.atom || n.Depth(p, r) != term.Depth(read(c.atom))) {
			t.Errorf("%s does not become %s", c.pattern, c.atom)
		}
	}
	if p := join.NewPattern(read("p(Y,f(Z),g(Y))"), []string{"X", "Y", "Z"}); p.Vars() != 6 || len(p.Vars().Singles()) != 2 || p.Vars().Singles()[0] != 2 || p.Vars().Singles()[1] != 4 {
		t.Error(p.Vars())
	}
}

// Literals not distinct(a, b) are taken out of rules.
func TestWithoutEqualities(t *testing.T) {
	for _, c := range []struct{ rule, want string }{
		{"p(X) if q(X,Y) and not distinct(X,Y).", "p(X) if q(X,X)."}, {"p(X) if q(X,Y) and not r(Y) and not distinct(f(X),f(g(Y))).", "p(g(Y)) if q(g(Y),Y) and not r(Y)."},
		{"p(X) if q(X) and distinct(X,a).", "p(X) if q(X) and distinct(X,a)."}, {"p if not distinct(a,a).", "p."}, {"p if q and not distinct(a,b).", ""}, {"p(X) if q(X) and not distinct(X,f(X)).", ""}, {"p(X) if q(X) and not distinct(X,a) and not distinct(X,b).", ""},
		{"p(X) if q(X,Y,Z) and not distinct(X,Y) and not distinct(Y,Z) and not distinct(Z,a).", "p(a) if q(a,a,a)."}, {"p(X,Y) if q(X) and r(Y) and not distinct(f(X,b),f(a,Y)).", "p(a,b) if q(a) and r(b)."},
	} {
		x, _, e := parser.Rule(c.rule)
		if e != api.OK {
			panic(c.rule)
		}
		r, ok := join.WithoutEqualities(x)
		if ok != (c.want != "") || ok && printer.Rule(r) != c.want {
			t.Errorf("%s becomes %s, %v", c.rule, printer.Rule(r), ok)
		}
	}
}

// An equality holds exactly where two terms become equal.
func TestEquality(t *testing.T) {
	n := join.NewTerms()
	vars := []string{"X", "Y"}
	var values []int
	for _, s := range []string{"a", "b", "f(a)", "f(f(a))", "g(a,b)"} {
		values = append(values, n.Add(join.NewPattern(read(s), nil), join.Row{}))
	}
	for _, c := range [][2]string{{"X", "Y"}, {"X", "a"}, {"X", "f(Y)"}, {"f(f(X))", "f(f(f(Y)))"}, {"g(X,Y)", "g(Y,X)"}, {"g(X,b)", "g(a,Y)"}, {"g(X,X)", "g(a,Y)"}, {"X", "X"}, {"f(X)", "f(X)"}, {"a", "a"}, {"a", "b"}, {"f(X)", "g(X,Y)"}, {"X", "f(X)"}, {"f(X,Y)", "f(X)"}, {"X", "g(Y,b)"}} {
		y, ok := join.NewEquality(read(c[0]), read(c[1]), vars)
		for _, a := range values {
			for _, b := range values {
				row := join.Row{a, b}
				want := string(n.AppendText(nil, join.NewPattern(read(c[0]), vars), row)) == string(n.AppendText(nil, join.NewPattern(read(c[1]), vars), row))
				if got := ok && y.Holds(n, row); got != want || ok && y.Differ(n).Fails(row) != want {
					t.Errorf("%s and %s: %v for %s and %s", c[0], c[1], got, n.Text(a), n.Text(b))
				}
			}
		}
	}
	if y, ok := join.NewEquality(read("g(X,Y)"), read("g(a,Y)"), vars); y.Vars != 1 || !ok {
		t.Error(y.Vars, ok)
	}
}

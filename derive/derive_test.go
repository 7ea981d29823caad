package derive_test

import (
	"testing"

	"gameplayer/api"
	"gameplayer/derive"
	"gameplayer/parser"
	"gameplayer/printer"
)

// read reads rules.
func read(s string) []api.Rule {
	l, _, e := parser.Parse(s)
	if e != api.OK {
		panic(s)
	}
	return l
}

// terms reads terms.
func terms(s string) []api.Term {
	l, _, e := parser.Terms(s)
	if e != api.OK {
		panic(s)
	}
	return l
}

// A program can be used repeatedly, and any ground atoms may be given: also those of relations that have rules.
func TestProgram(t *testing.T) {
	p := derive.New(read("q(X) if p(X) and not r(X). p(f(X)) if s(X). r(X) if s(X). s(X) if s(f(X))."), [][]int{{1, 2, 3}, {0}})
	for _, c := range []struct {
		given, want, heads   string
		allError, roundError api.Errno
	}{
		{"", "", "", api.OK, api.OK},
		{"p(a), s(a), p(a)", "p(a), p(f(a)), q(f(a)), r(a), s(a)", "p(f(a)), q(a), r(a)", api.OK, api.OK},
		{"p(a), q(c), r(b), s(f(a)), p(b)", "p(a), p(b), p(f(a)), p(f(f(a))), q(c), q(f(f(a))), r(a), r(b), r(f(a)), s(a), s(f(a))", "p(f(f(a))), q(a), r(f(a)), s(a)", api.OK, api.OK},
		{"s(f(f(a)))", "", "", api.ErrDepth, api.ErrDepth},
	} {
		for range 2 {
			if got, e := p.All(terms(c.given)); printer.Terms(got) != c.want || e != c.allError {
				t.Errorf("All(%s) is %s, %d, want %s", c.given, printer.Terms(got), e, c.want)
			}
			if got, e := p.Round(terms(c.given)); printer.Terms(got) != c.heads || e != c.roundError {
				t.Errorf("Round(%s) is %s, %d, want %s", c.given, printer.Terms(got), e, c.heads)
			}
		}
	}
}

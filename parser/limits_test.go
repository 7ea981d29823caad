package parser_test

import (
	"strings"
	"testing"

	"gameplayer/api"
	"gameplayer/parser"
)

// P5.1: ErrArity, only by a token with which an argument begins
func TestArity(t *testing.T) {
	l := []failure{
		{"f(a,b,c,d,e)", 10, api.ErrArity}, {"f(a,b,c,d, # c\n X)", 16, api.ErrArity}, {"f(a,b,c,d,7)", 10, api.ErrArity}, {"f(a,b,c,d,g(a))", 10, api.ErrArity}, {"f(a,b,c,d,e,g,h)", 10, api.ErrArity}, {"f(a,b,c,d,e", 10, api.ErrArity},
		{"f(a,b,c,d,)", 10, api.ErrSyntax}, {"f(a,b,c,d,not)", 10, api.ErrSyntax}, {"f(a,b,c,d,(e))", 10, api.ErrSyntax}, {"f(a,b,c,d,,e)", 10, api.ErrSyntax}, {"f(a,b,c,d,", 10, api.ErrSyntax}, {"f(a,b,c,d e)", 10, api.ErrSyntax}, {"f(a,b,c,d", 9, api.ErrSyntax},
		{"f(g(a,b,c,d,e))", 12, api.ErrArity}, {"f(g(a,b,c,d),1,2,3,X)", 19, api.ErrArity}, {"f(f(f(a,b,c,d,e)))", 14, api.ErrArity}, {"f(a,g(a,b,c,d,X(", 14, api.ErrArity},
		{"f(a,b,c,d,f(f(f(f(a)))))", 10, api.ErrArity}, // its arguments are not reached
	}
	for _, i := range []int{parse, oneRule, oneTerm, someTerms} {
		checkFailures(t, i, l)
	}
	checkFailures(t, parse, []failure{{"p if f(a,b,c,d,e).", 15, api.ErrArity}, {"p. q if not f(1,2,3,4,5).", 22, api.ErrArity}})
	checkFailures(t, someTerms, []failure{{"a, f(a,b,c,d,e)", 13, api.ErrArity}})
	full := "f(f(f(a,b,c,d),f(a,b,c,d),f(a,b,c,d),f(a,b,c,d)),b,c,X)"
	checkCounts(t, parse, map[string]int{full + ".": 1, "p if " + full + ".": 1})
	checkCounts(t, oneRule, map[string]int{full + ".": 1})
	checkCounts(t, oneTerm, map[string]int{full: 1})
	checkCounts(t, someTerms, map[string]int{full: 1, repeated(full, 9, ","): 9})
}

// P5.1: ErrDepth, only by a token with which a term begins
func TestDepth(t *testing.T) {
	l := []failure{
		{"f(f(f(f(a))))", 8, api.ErrDepth}, {"f(f(f(f(X))))", 8, api.ErrDepth}, {"f(f(f(f(0))))", 8, api.ErrDepth}, {"f(f(f(f(f(a)))))", 8, api.ErrDepth}, {"f(f(f(f(a", 8, api.ErrDepth}, {"f(f(f(f(a b", 8, api.ErrDepth},
		{"f(f(f(f())))", 8, api.ErrSyntax}, {"f(f(f(f(if))))", 8, api.ErrSyntax}, {"f(f(f(f(", 8, api.ErrSyntax}, {"f(f(f(f((a)))))", 8, api.ErrSyntax}, {"f(f(f(f(,", 8, api.ErrSyntax}, {"f(f(f(X(a))))", 7, api.ErrSyntax},
		{"f(a,f(a,f(a,f(a))))", 14, api.ErrDepth}, {"f(f(f(a)),f(f(f(b))))", 16, api.ErrDepth}, {"f(f(f(a,b,c,d(1))))", 14, api.ErrDepth},
	}
	for _, i := range []int{parse, oneRule, oneTerm, someTerms} {
		checkFailures(t, i, l)
	}
	checkFailures(t, parse, []failure{{"p if f(f(f(f(a)))).", 13, api.ErrDepth}, {"p. q if r and not f(f(f(f(X)))).", 26, api.ErrDepth}})
	checkFailures(t, someTerms, []failure{{"X, f(f(f(f(a))))", 11, api.ErrDepth}})
	deep := "f(f(f(a)),f(f(X)),f(f(0)))"
	checkCounts(t, parse, map[string]int{deep + ".": 1, "p if not " + deep + ".": 1})
	checkCounts(t, oneRule, map[string]int{"p if " + deep + ".": 1})
	checkCounts(t, oneTerm, map[string]int{deep: 1})
	checkCounts(t, someTerms, map[string]int{repeated(deep, 20, ","): 20})
}

// P5.1: ErrTooLong of a body, only by a token with which a literal begins
func TestLongBodies(t *testing.T) {
	const start = "p if "
	full := start + repeated("q", api.MaxBody, " and ")
	at := len(full) + 5
	l := []failure{
		{full + " and q.", at, api.ErrTooLong}, {full + " and not q.", at, api.ErrTooLong}, {full + " and not.", at, api.ErrTooLong}, {full + " and q X", at, api.ErrTooLong}, {full + " and q(", at, api.ErrTooLong}, {full + " and not", at, api.ErrTooLong},
		{full + " and X.", at, api.ErrSyntax}, {full + " and .", at, api.ErrSyntax}, {full + " and 1.", at, api.ErrSyntax}, {full + " and and q.", at, api.ErrSyntax}, {full + " and if q.", at, api.ErrSyntax}, {full + " and  ", at + 1, api.ErrSyntax}, {full + " q.", at - 4, api.ErrSyntax}, {full, at - 5, api.ErrSyntax},
		{start + repeated("not q", api.MaxBody, " and ") + " and not q.", at + 4*api.MaxBody, api.ErrTooLong},
	}
	checkFailures(t, parse, l)
	checkFailures(t, oneRule, l)
	checkFailures(t, parse, []failure{{full + ". " + full + " and q.", at + len(full) + 2, api.ErrTooLong}})
	none := start + repeated("not q(X)", api.MaxBody, " and ") + "."
	checkCounts(t, parse, map[string]int{full + ".": 1, none: 1, strings.Repeat(full+".", 9): 9})
	for source, not := range map[string]bool{full + ".": false, none: true} {
		r, _, err := parser.Rule(source)
		if len(r.Body) != api.MaxBody || r.Body[api.MaxBody-1].Not != not || err != api.OK {
			t.Errorf("Rule(%q) is %v, %d", source, r, err)
		}
	}
}

// P5.1: ErrTooLong of a description, only by a token with which a rule begins
func TestLongDescriptions(t *testing.T) {
	full := strings.Repeat("p.", api.MaxRules)
	at := len(full)
	checkCounts(t, parse, map[string]int{full: api.MaxRules, full + " # p.": api.MaxRules, strings.Repeat("p.", api.MaxRules-1): api.MaxRules - 1})
	checkFailures(t, parse, []failure{
		{full + "p.", at, api.ErrTooLong}, {full + " p", at + 1, api.ErrTooLong}, {full + "p(", at, api.ErrTooLong}, {full + "p X", at, api.ErrTooLong}, {full + "p(f(f(f(f(a))))).", at, api.ErrTooLong}, {full + full, at, api.ErrTooLong},
		{full + ")", at, api.ErrSyntax}, {full + "X.", at, api.ErrSyntax}, {full + "1", at, api.ErrSyntax}, {full + "not p.", at, api.ErrSyntax}, {full + "if", at, api.ErrSyntax}, {full + ".", at, api.ErrSyntax},
		{full[:at-1], at - 1, api.ErrSyntax}, {full[:at-1] + " p.", at, api.ErrSyntax},
	})
	checkFailures(t, oneRule, []failure{{full + "p.", 2, api.ErrSyntax}})
}

// P5.1, P5.3: lists of terms have no limit but MaxText
func TestLongTexts(t *testing.T) {
	terms := strings.Repeat("a,", api.MaxText/2-1) + "bb"
	checkCounts(t, someTerms, map[string]int{terms: api.MaxText / 2, terms[:len(terms)-1]: api.MaxText / 2})
	checkFailures(t, someTerms, []failure{{strings.Repeat("a,", api.MaxText/2), api.MaxText, api.ErrSyntax}, {terms + " ", 0, api.ErrTooLong}})
	blanks := strings.Repeat(" ", api.MaxText-2)
	checkCounts(t, parse, map[string]int{"p." + blanks: 1, blanks + "p.": 1, "p" + blanks + ".": 1, blanks: 0})
	checkCounts(t, oneTerm, map[string]int{"a" + blanks: 1})
	checkFailures(t, parse, []failure{{"p." + blanks + " ", 0, api.ErrTooLong}, {blanks + "p ", api.MaxText, api.ErrSyntax}, {blanks + " )", api.MaxText - 1, api.ErrSyntax}})
	for i := range readers {
		checkFailures(t, i, []failure{{"p(" + blanks, api.MaxText, api.ErrSyntax}})
	}
}

// R1: texts that are nested as deeply as MaxText permits
func TestDeepTexts(t *testing.T) {
	for i := range readers {
		checkFailures(t, i, []failure{{strings.Repeat("f(", api.MaxText/2), 8, api.ErrDepth}, {"f" + strings.Repeat("(", api.MaxText-1), 2, api.ErrSyntax}})
	}
}

// scribble overwrites all that a list of terms can reach, its spare capacity too.
func scribble(l []api.Term) {
	l = l[:cap(l)]
	for i := range l {
		scribble(l[i].Args)
		l[i] = api.Term{Name: "scribble"}
	}
}

// R5: no two lists of a result, and no two results, share memory.
func TestResultsAreNewMemory(t *testing.T) {
	const source = "p(f(a,b),g(a),X) if q(f(a,b),c) and r(g(a)). p(a,b,c) if q(a)."
	kept, _, _ := parser.Parse(source)
	l, _, _ := parser.Parse(source)
	for i := range l {
		scribble(l[i].Head.Args)
		scribble(l[i].Body[0].Atom.Args)
		clear(l[i].Body[1:cap(l[i].Body)])
	}
	clear(l[1:cap(l)])
	want := []string{"p scribble scribble scribble", "q scribble scribble"}
	if got := []string{flat(l[0].Head), flat(l[0].Body[0].Atom)}; got[0] != want[0] || got[1] != want[1] {
		t.Error("the lists of the result share memory:", got)
	}
	again, _, err := parser.Parse(source)
	if len(kept) != 2 || err != api.OK || !equalRules(kept[0], again[0]) || !equalRules(kept[1], again[1]) || flat(kept[0].Body[1].Atom.Args[0]) != "g a" {
		t.Error("results share memory:", kept, again)
	}
	terms, _, _ := parser.Terms("f(a,b), f(a,b), f(g(a),g(a))")
	scribble(terms[0].Args)
	scribble(terms[2].Args[0].Args)
	if flat(terms[1]) != "f a b" || flat(terms[2].Args[1]) != "g a" {
		t.Error("the lists of terms share memory:", terms)
	}
}

// flat is the name of a term and those of its arguments.
func flat(t api.Term) string {
	names := t.Name
	for _, a := range t.Args {
		names += " " + a.Name
	}
	return names
}

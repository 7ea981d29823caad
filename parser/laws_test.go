package parser_test

import (
	"math/rand/v2"
	"slices"
	"strings"
	"testing"

	"gameplayer/api"
	"gameplayer/parser"
	"gameplayer/term"
)

// sources are many texts, each of them accepted or nearly so.
func sources() []string {
	r := rand.New(rand.NewPCG(5, 2))
	l := []string{"", " ", "#", "p.", "p. # open", "# open", "X", "a, b", "p", "p if q. #\n"}
	for range 4000 {
		l = append(l, randomText(r))
	}
	return l
}

// P5.2, P5.3: what is written is read again
func TestReadsWhatIsWritten(t *testing.T) {
	r := rand.New(rand.NewPCG(5, 3))
	limits := bounds{depth: api.MaxDepth, args: api.MaxArgs, body: api.MaxBody}
	for range 3000 {
		var rules []api.Rule
		var terms []api.Term
		var ruleTexts, termTexts []string
		for range r.IntN(5) {
			rules = append(rules, randomRule(r, limits))
			terms = append(terms, randomTerm(r, limits, limits.depth))
			ruleTexts = appendRule(ruleTexts, rules[len(rules)-1])
			if len(terms) > 1 {
				termTexts = append(termTexts, ",")
			}
			termTexts = appendTerm(termTexts, terms[len(terms)-1])
		}
		if got, at, err := parser.Parse(spaced(r, ruleTexts)); !slices.EqualFunc(got, rules, equalRules) || at != 0 || err != api.OK {
			t.Fatalf("%q: %v, %d, %d", ruleTexts, got, at, err)
		}
		if got, at, err := parser.Terms(spaced(r, termTexts)); !equalLists(got, terms) || at != 0 || err != api.OK {
			t.Fatalf("%q: %v, %d, %d", termTexts, got, at, err)
		}
		for _, x := range rules {
			if got, at, err := parser.Rule(spaced(r, appendRule(nil, x))); !equalRules(got, x) || at != 0 || err != api.OK {
				t.Fatalf("%v: %v, %d, %d", x, got, at, err)
			}
		}
		for _, x := range terms {
			if got, at, err := parser.Term(spaced(r, appendTerm(nil, x))); !equal(got, x) || at != 0 || err != api.OK {
				t.Fatalf("%v: %v, %d, %d", x, got, at, err)
			}
		}
	}
}

// P5.4
func TestResultsAreValid(t *testing.T) {
	right := 0
	for _, s := range sources() {
		rules, _, err := parser.Parse(s)
		if err == api.OK {
			right++
		}
		if one, _, err := parser.Rule(s); err == api.OK {
			rules = append(rules, one)
		}
		if len(rules) > api.MaxRules+1 {
			t.Fatalf("%q: %d rules", s, len(rules))
		}
		for _, x := range rules {
			checkRule(t, s, x)
		}
		terms, _, err := parser.Terms(s)
		if err == api.OK && len(terms) > 0 {
			right++
		}
		if one, _, err := parser.Term(s); err == api.OK {
			terms = append(terms, one)
		}
		for _, x := range terms {
			if !term.Valid(x) {
				t.Fatalf("%q: %v", s, x)
			}
		}
	}
	if right < 1000 {
		t.Error("too few texts are accepted:", right)
	}
}

func checkRule(t *testing.T, source string, r api.Rule) {
	t.Helper()
	atoms := []api.Term{r.Head}
	for _, x := range r.Body {
		atoms = append(atoms, x.Atom)
	}
	if len(r.Body) > api.MaxBody || slices.ContainsFunc(atoms, func(a api.Term) bool { return !term.Valid(a) || !term.Name(a.Name) }) {
		t.Fatalf("%q: %v", source, r)
	}
}

// P5.5
func TestConcatenation(t *testing.T) {
	joined := 0
	all := sources()
	for i, first := range all {
		second := all[len(all)-1-i]
		a, _, errA := parser.Parse(first)
		b, _, errB := parser.Parse(second)
		if errA != api.OK || errB != api.OK || len(first)+len(second) >= api.MaxText || len(a)+len(b) > api.MaxRules {
			continue
		}
		joined++
		got, at, err := parser.Parse(first + "\n" + second)
		if !slices.EqualFunc(got, append(a, b...), equalRules) || at != 0 || err != api.OK {
			t.Fatalf("%q and %q: %v, %d, %d", first, second, got, at, err)
		}
	}
	if joined < 200 {
		t.Error("too few texts were joined:", joined)
	}
}

// P5.5: at the limits of rules and bytes
func TestConcatenationAtTheLimits(t *testing.T) {
	const half = api.MaxRules / 2
	first := strings.Repeat("p.", half) + "#"
	second := strings.Repeat("q.", half)
	second = strings.Repeat(" ", api.MaxText-1-len(first)-len(second)) + second
	got, at, err := parser.Parse(first + "\n" + second)
	if len(got) != api.MaxRules || at != 0 || err != api.OK || got[half-1].Head.Name != "p" || got[half].Head.Name != "q" {
		t.Error(len(got), at, err)
	}
	if _, at, err := parser.Parse(first + "\n" + second + "q."); at != 0 || err != api.ErrTooLong {
		t.Error("more bytes:", at, err)
	}
	if _, at, err := parser.Parse(first + "\n" + second[2:] + "q."); at != api.MaxText-2 || err != api.ErrTooLong {
		t.Error("more rules:", at, err)
	}
}

// P5.6
func TestOneRule(t *testing.T) {
	single := 0
	check := func(s string) {
		r, _, err := parser.Rule(s)
		l, _, _ := parser.Parse(s)
		if (err == api.OK) != (len(l) == 1) || err == api.OK && !equalRules(r, l[0]) {
			t.Fatalf("%q: %v, %d and %v", s, r, err, l)
		}
		if err == api.OK {
			single++
		}
	}
	for _, s := range sources() {
		check(s)
	}
	short(5, []string{"p", " X", "(", ")", ".", " if", " not", " and"}, check)
	if single < 200 {
		t.Error("too few texts of one rule:", single)
	}
}

package printer_test

import (
	"math/rand/v2"
	"reflect"
	"slices"
	"strings"
	"testing"

	"gameplayer/api"
	"gameplayer/parser"
	"gameplayer/printer"
)

// names are those of terms: good ones, and a few that are none or contain what ends a name.
var names = []string{"a", "b", "p", "f", "x-1", "iff", "abcdefghijklmnop", "X", "Yz", "0", "12", "9999"}

var badNames = []string{"", "if", "not", "and", "10000", "01", "a b", "a_b", "A-b", "p(a)", "a,b", "p.", ")", "a#", "a\n", "abcdefghijklmnopq", "q and r", "not q", "p if q"}

// source makes random rules; about one in bad of their names and lists is not permitted, and none if bad is 0.
type source struct {
	r   *rand.Rand
	bad int
}

func (s source) name(atom bool) string {
	switch {
	case s.bad > 0 && s.r.IntN(s.bad) == 0:
		return badNames[s.r.IntN(len(badNames))]
	case atom && (s.bad == 0 || s.r.IntN(s.bad) > 0):
		return names[s.r.IntN(7)]
	}
	return names[s.r.IntN(len(names))]
}

// length is a length up to a limit or, rarely, beyond it.
func (s source) length(limit int) int {
	if s.bad > 0 && s.r.IntN(s.bad) == 0 {
		return limit + 1
	}
	return s.r.IntN(limit + 1)
}

func (s source) term(depth int, atom bool) api.Term {
	t := api.Term{Name: s.name(atom)}
	if depth == 1 || !atom && s.r.IntN(3) > 0 {
		return t
	}
	for range s.length(api.MaxArgs) {
		t.Args = append(t.Args, s.term(depth-1, false))
	}
	if len(t.Args) > 0 && (s.bad == 0 || s.r.IntN(s.bad) > 0) {
		t.Name = names[s.r.IntN(7)]
	}
	return t
}

func (s source) rule() api.Rule {
	depth := api.MaxDepth
	if s.bad > 0 && s.r.IntN(s.bad) == 0 {
		depth++
	}
	r := api.Rule{Head: s.term(depth, true)}
	for range s.length(api.MaxBody) {
		r.Body = append(r.Body, api.Literal{Not: s.r.IntN(3) == 0, Atom: s.term(depth, true)})
	}
	return r
}

// descriptions are lists of printable rules.
func descriptions() [][]api.Rule {
	s := source{r: rand.New(rand.NewPCG(6, 1))}
	l := [][]api.Rule{nil, printable(), alike(rule(leaf("p")), api.MaxRules), alike(line(128), api.MaxRules), alike(line(160), 102)}
	for range 500 {
		var rules []api.Rule
		for range s.r.IntN(20) {
			rules = append(rules, s.rule())
		}
		l = append(l, rules)
	}
	return l
}

// P6.5
func TestBack(t *testing.T) {
	for _, l := range descriptions() {
		text, err := printer.Rules(l)
		if err != api.OK {
			t.Fatalf("Rules of %d rules returns %d", len(l), err)
		}
		back, at, err := parser.Parse(text)
		if !slices.EqualFunc(back, l, equalRules) || at != 0 || err != api.OK {
			t.Fatalf("Parse(%q) is %v, %d, %d", text, back, at, err)
		}
		again, at, err := printer.Format(text)
		if again != text || at != 0 || err != api.OK {
			t.Fatalf("Format(%q) is %q, %d, %d", text, again, at, err)
		}
	}
}

// P6.6
func TestPrintableRules(t *testing.T) {
	l := slices.Concat(printable(), unprintable())
	r := rand.New(rand.NewPCG(6, 2))
	for _, bad := range []int{0, 10, 40, 160} {
		s := source{r: r, bad: bad}
		for range 2000 {
			l = append(l, s.rule())
		}
	}
	counts := map[bool]int{}
	for _, x := range l {
		text := printer.Rule(x)
		back, _, err := parser.Rule(text)
		valid := printer.Valid(x)
		if valid != (err == api.OK && equalRules(back, x)) {
			t.Fatalf("%#v: %v, but Rule(%q) is %v, %d", x, valid, text, back, err)
		}
		if valid && strings.Contains(text, "\n") {
			t.Fatalf("a line feed within %q", text)
		}
		for _, b := range x.Body {
			if valid && strings.Contains(printer.Literal(b), "\n") {
				t.Fatalf("a line feed within %q", printer.Literal(b))
			}
		}
		counts[valid]++
	}
	if counts[true] < 1000 || counts[false] < 1000 {
		t.Error("too few rules of a kind:", counts)
	}
}

// P6.7
func TestLists(t *testing.T) {
	all := descriptions()
	joined := 0
	for i, a := range all {
		b := all[len(all)-1-i]
		first, _ := printer.Rules(a)
		second, _ := printer.Rules(b)
		text, err := printer.Rules(slices.Concat(a, b))
		if err != api.OK {
			continue
		}
		joined++
		if text != first+second {
			t.Fatalf("%q and %q, joined: %q", first, second, text)
		}
	}
	if joined < 300 {
		t.Error("too few lists were joined:", joined)
	}
}

// roomy copies a term, with lists that have spare capacity.
func roomy(t api.Term) api.Term {
	l := make([]api.Term, 0, len(t.Args)+2)
	for _, a := range t.Args {
		l = append(l, roomy(a))
	}
	return api.Term{Name: t.Name, Args: l}
}

// R5: arguments are not modified, nor is their spare capacity.
func TestArgumentsAreUntouched(t *testing.T) {
	build := func() []api.Rule {
		l := make([]api.Rule, 0, 20)
		for _, r := range append(printable(), rule(leaf("X"))) {
			body := make([]api.Literal, 0, len(r.Body)+2)
			for _, x := range r.Body {
				body = append(body, api.Literal{Not: x.Not, Atom: roomy(x.Atom)})
			}
			l = append(l, api.Rule{Head: roomy(r.Head), Body: body})
		}
		return l
	}
	l, untouched := build(), build()
	n := len(l)
	printer.Rules(l)
	printer.Rules(l[:n-1])
	for _, r := range l {
		printer.Rule(r)
		printer.Valid(r)
		printer.Terms(r.Head.Args)
		for _, x := range r.Body {
			printer.Literal(x)
		}
	}
	whole := l[:cap(l)]
	if !reflect.DeepEqual(l, untouched) || slices.ContainsFunc(whole[n:], func(r api.Rule) bool { return r.Head.Name != "" || r.Body != nil }) {
		t.Error("an argument has changed")
	}
	for _, r := range l {
		for _, x := range r.Body[len(r.Body):cap(r.Body)] {
			if x.Not || x.Atom.Name != "" {
				t.Error("the spare capacity of a body has changed")
			}
		}
		for _, x := range r.Head.Args[len(r.Head.Args):cap(r.Head.Args)] {
			if x.Name != "" {
				t.Error("the spare capacity of arguments has changed")
			}
		}
	}
}

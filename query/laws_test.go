package query_test

import (
	"maps"
	"math/rand/v2"
	"slices"
	"strings"
	"testing"

	"gameplayer/api"
	"gameplayer/check"
	"gameplayer/parser"
	"gameplayer/printer"
	"gameplayer/prove"
	"gameplayer/query"
	"gameplayer/strata"
	"gameplayer/term"
)

// anyTerm makes a term over a few constants and variables.
func anyTerm(r *rand.Rand, vars string, deep int) string {
	if deep > 0 && r.IntN(4) == 0 {
		return "f(" + anyTerm(r, vars, deep-1) + ")"
	}
	choices := strings.Fields("a b x " + strings.Repeat(vars+" ", 5))
	return choices[r.IntN(len(choices))]
}

// anyAtom makes an atom with one of some relations, each of which is followed by its number of arguments.
func anyAtom(r *rand.Rand, relations, vars string, deep int) string {
	choices := strings.Fields(relations)
	s := choices[r.IntN(len(choices))]
	name, n := s[:len(s)-1], int(s[len(s)-1]-'0')
	var args []string
	for range n {
		args = append(args, anyTerm(r, vars, deep))
	}
	if n == 0 {
		return name
	}
	return name + "(" + strings.Join(args, ",") + ")"
}

const own = "p0 q1 q1 r2 r2 s2 u1 v1 w0 w1"

// anyRule makes the text of a rule.
func anyRule(r *rand.Rand, deep int) string {
	if r.IntN(6) == 0 {
		choices := strings.SplitAfter("q(f(X)) if q(X). r(X,Y) if true(X) and true(Y). r(f(X),Y) if r(X,Y). u(f(f(X))) if true(X). q(X) if true(X). q(a).", ". ")
		return choices[r.IntN(len(choices))]
	}
	vars := strings.Join(strings.Fields("X Y Z")[:1+r.IntN(3)], " ")
	if r.IntN(4) == 0 {
		return anyAtom(r, own, "", deep) + "."
	}
	var body []string
	for range 1 + r.IntN(3) {
		body = append(body, strings.Repeat("not ", r.IntN(3)/2)+anyAtom(r, own+" true1 true1 true1 does2 does2 distinct2", vars, deep))
	}
	return anyAtom(r, own+" legal2 next1", vars, deep) + " if " + strings.Join(body, " and ") + "."
}

// anyRules makes a valid list of rules.
func anyRules(r *rand.Rand) []api.Rule {
	var l []api.Rule
	deep := r.IntN(3)
	for count := r.IntN(16); count > 0; {
		x, _, e := parser.Rule(anyRule(r, deep))
		if e != api.OK || check.Rule(x) != api.OK {
			continue
		}
		if _, e := strata.Levels(append(slices.Clone(l), x)); e == api.OK {
			l = append(l, x)
			count--
		}
	}
	return l
}

// anyGiven makes given atoms.
func anyGiven(r *rand.Rand) []api.Term {
	var texts []string
	for range r.IntN(6) {
		texts = append(texts, anyAtom(r, "true1 true1 does2", "", 2))
	}
	return terms(strings.Join(texts, ","))
}

func equal(a, b []api.Term) bool { return term.CompareList(a, b) == 0 }

// simple is a prover that keeps nothing but the names of the stored relations.
type simple struct {
	rules  []api.Rule
	given  []api.Term
	stored map[string]bool
	work   int
}

// needed are the relations to which rules lead from one, which is among them.
func (p *simple) needed(name string) map[string]bool {
	met := map[string]bool{name: true}
	for grown := true; grown; {
		before := len(met)
		for _, r := range p.rules {
			for _, x := range r.Body {
				if met[r.Head.Name] && x.Atom.Name != "distinct" {
					met[x.Atom.Name] = true
				}
			}
		}
		grown = len(met) > before
	}
	return met
}

// part are the atoms of a relation, each once.
func part(l []api.Term, name string) string {
	return printer.Terms(term.Sort(slices.DeleteFunc(slices.Clone(l), func(t api.Term) bool { return t.Name != name })))
}

func (p *simple) set(given []api.Term) {
	for _, changed := range []string{"true", "does"} {
		if part(p.given, changed) != part(given, changed) {
			maps.DeleteFunc(p.stored, func(name string, _ bool) bool { return p.needed(name)[changed] })
		}
	}
	p.given = given
}

func (p *simple) ask(pattern api.Term) ([]api.Term, api.Errno) {
	names := p.needed(pattern.Name)
	rules := slices.DeleteFunc(slices.Clone(p.rules), func(r api.Rule) bool { return !names[r.Head.Name] })
	got, e := prove.Answers(rules, p.given, pattern)
	if e != api.OK {
		return nil, e
	}
	for _, r := range rules {
		if !p.stored[r.Head.Name] {
			p.stored[r.Head.Name] = true
			p.work++
		}
	}
	return got, api.OK
}

// P16.2 to P16.6: comparison with a prover that evaluates everything anew
func TestAgainstSimpleProver(t *testing.T) {
	r := rand.New(rand.NewPCG(16, 1))
	counts := map[api.Errno]int{}
	answered, reused := 0, 0
	for range 800 {
		l := anyRules(r)
		p, e := query.New(l)
		if e != api.OK {
			t.Fatal(l, e)
		}
		model := &simple{rules: l, stored: map[string]bool{}}
		for range 12 {
			switch r.IntN(4) {
			case 0:
				given := anyGiven(r)
				if e := p.Set(given); e != api.OK {
					t.Fatal(given, e)
				}
				model.set(given)
			case 1:
				x := terms(anyAtom(r, own+" true1 does2 legal2", "", 1))[0]
				holds, e := p.Holds(x)
				want, wantError := model.ask(x)
				if e != wantError || holds != (len(want) > 0) {
					t.Fatalf("Holds(%v; %s; %s) is %v, %d, want %s, %d", l, printer.Terms(model.given), term.Text(x), holds, e, printer.Terms(want), wantError)
				}
			default:
				x := terms(anyAtom(r, own+" true1 does2 next1 distinct2", "X Y", 1))[0]
				before := model.work
				got, e := p.Ask(x)
				want, wantError := model.ask(x)
				if e != wantError || !equal(got, want) {
					t.Fatalf("Ask(%v; %s; %s) is %s, %d, want %s, %d", l, printer.Terms(model.given), term.Text(x), printer.Terms(got), e, printer.Terms(want), wantError)
				}
				counts[e]++
				answered += min(len(got), 1)
				if model.work > before && model.work < before+len(model.stored) && len(got) > 0 {
					reused++
				}
			}
			if want := slices.Sorted(maps.Keys(model.stored)); !slices.Equal(p.Tables(), want) || p.Work() != model.work {
				t.Fatalf("%v: stored %v, work %d, want %v, %d", l, p.Tables(), p.Work(), want, model.work)
			}
		}
	}
	if counts[api.OK] < 2000 || counts[api.ErrDepth] < 100 || answered < 500 || reused < 100 {
		t.Error(counts, answered, reused)
	}
}

// P16.6: a new prover answers the same.
func TestFresh(t *testing.T) {
	r := rand.New(rand.NewPCG(16, 6))
	for range 500 {
		l := anyRules(r)
		p, _ := query.New(l)
		for range 6 {
			given := anyGiven(r)
			p.Set(given)
			for range 3 {
				x := terms(anyAtom(r, own+" true1 does2", "X Y", 1))[0]
				fresh, _ := query.New(l)
				fresh.Set(given)
				want, wantError := fresh.Ask(x)
				if got, e := p.Ask(x); e != wantError || !equal(got, want) {
					t.Fatalf("Ask(%v; %s; %s) is %s, %d, but of a new prover %s, %d", l, printer.Terms(given), term.Text(x), printer.Terms(got), e, printer.Terms(want), wantError)
				}
			}
		}
	}
}

// P16.7, P16.8: what is stored costs nothing, and what depends on nothing that is given stays stored.
func TestStoredStays(t *testing.T) {
	r := rand.New(rand.NewPCG(16, 8))
	same, stayed := 0, 0
	for range 800 {
		l := anyRules(r)
		p, _ := query.New(l)
		model := &simple{rules: l}
		given := anyGiven(r)
		p.Set(given)
		for _, x := range strings.Fields("p q r s u v w") {
			p.Ask(f(x))
		}
		stored, work := p.Tables(), p.Work()
		again := append(slices.Clone(given), given...)
		r.Shuffle(len(again), func(i, j int) { again[i], again[j] = again[j], again[i] })
		p.Set(again)
		for _, x := range stored {
			if _, e := p.Ask(f(x, f("X"), f("Y"))); e != api.OK {
				t.Fatal(l, x, e)
			}
		}
		if !slices.Equal(p.Tables(), stored) || p.Work() != work {
			t.Fatalf("%v: stored %v, work %d, before %v, %d", l, p.Tables(), p.Work(), stored, work)
		}
		same += len(stored)
		p.Set(anyGiven(r))
		p.Set(nil)
		for _, x := range stored {
			names := model.needed(x)
			if !names["true"] && !names["does"] {
				stayed++
				if !slices.Contains(p.Tables(), x) {
					t.Fatalf("%v: %s is not stored", l, x)
				}
			}
		}
	}
	if same < 1000 || stayed < 300 {
		t.Error(same, stayed)
	}
}

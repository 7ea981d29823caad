package normal_test

import (
	"math/rand/v2"
	"slices"
	"strconv"
	"strings"
	"testing"

	"gameplayer/api"
	"gameplayer/lexer"
	"gameplayer/normal"
	"gameplayer/printer"
	"gameplayer/term"
)

// renamed is a rule whose variables are replaced by others in its text.
func renamed(r api.Rule, names map[string]string) api.Rule {
	tokens, _, err := lexer.Lex(printer.Rule(r))
	if err != api.OK {
		panic(printer.Rule(r))
	}
	var texts []string
	for _, x := range tokens {
		if x.Kind == api.TokenVariable {
			x.Text = names[x.Text]
		}
		texts = append(texts, x.Text)
	}
	return read(strings.Join(texts, " "))
}

// vars are the variables of a rule.
func vars(r api.Rule) []string {
	atoms := []api.Term{r.Head}
	for _, l := range r.Body {
		atoms = append(atoms, l.Atom)
	}
	return term.Vars(atoms...)
}

// flat is what the order of rules compares: the head, and then for each literal a number that is greater if it is negated, and its atom.
func flat(r api.Rule) []api.Term {
	l := []api.Term{r.Head}
	for _, x := range r.Body {
		sign := "0"
		if x.Not {
			sign = "1"
		}
		l = append(l, leaf(sign), x.Atom)
	}
	return l
}

func before(a, b api.Rule) bool { return term.CompareList(flat(a), flat(b)) < 0 }

// form is the normal form of a rule: the least of all that are obtained with the variables V1 to Vn, counted through as digits, where no two are the same.
func form(r api.Rule) api.Rule {
	old := vars(r)
	total := 1
	for range old {
		total *= len(old)
	}
	var least api.Rule
	for code := range total {
		names, used := map[string]string{}, map[int]bool{}
		for _, v := range old {
			names[v] = "V" + strconv.Itoa(code%len(old)+1)
			used[code%len(old)] = true
			code /= len(old)
		}
		if len(used) < len(old) {
			continue
		}
		if x := inserted(renamed(r, names)); least.Head.Name == "" || before(x, least) {
			least = x
		}
	}
	return least
}

// inserted is a rule whose literals are inserted into its body one by one, in their order, unless they are there.
func inserted(r api.Rule) api.Rule {
	result := api.Rule{Head: r.Head}
	one := func(l api.Literal) api.Rule { return api.Rule{Head: r.Head, Body: []api.Literal{l}} }
	for _, l := range r.Body {
		i := 0
		for i < len(result.Body) && before(one(result.Body[i]), one(l)) {
			i++
		}
		if i == len(result.Body) || before(one(l), one(result.Body[i])) {
			result.Body = slices.Insert(result.Body, i, l)
		}
	}
	return result
}

// source makes random printable rules with at most a number of variables and of literals.
type source struct {
	r              *rand.Rand
	variables      []string
	literals, args int
}

func (s source) term(depth int) api.Term {
	if k := s.r.IntN(2*len(s.variables) + 1); k < len(s.variables) {
		return leaf(s.variables[k])
	}
	if depth == 1 || s.r.IntN(2) == 0 {
		return leaf([]string{"a", "b", "9", "10"}[s.r.IntN(4)])
	}
	return s.atom("f", depth)
}

func (s source) atom(name string, depth int) api.Term {
	t := api.Term{Name: name}
	for range 1 + s.r.IntN(s.args) {
		t.Args = append(t.Args, s.term(depth-1))
	}
	return t
}

func (s source) rule() api.Rule {
	r := api.Rule{Head: s.atom("p", 3)}
	for range s.r.IntN(s.literals + 1) {
		r.Body = append(r.Body, api.Literal{Not: s.r.IntN(3) == 0, Atom: s.atom([]string{"p", "q"}[s.r.IntN(2)], 3)})
	}
	return r
}

// sources make rules of different kinds.
func sources(seed uint64) []source {
	r := rand.New(rand.NewPCG(8, seed))
	return []source{
		{r: r, variables: []string{"X", "Y"}, literals: 4, args: 2},
		{r: r, variables: []string{"V3", "V1", "V2"}, literals: 8, args: 1},
		{r: r, variables: []string{"A", "B", "V2", "V1"}, literals: 3, args: 3},
		{r: r, variables: []string{"V5", "E", "D", "C", "V1"}, literals: 5, args: 4},
	}
}

// P8.1, P8.6: comparison with lists of terms
func TestCompareFlatRules(t *testing.T) {
	for _, s := range sources(1) {
		for range 1000 {
			a, b := s.rule(), s.rule()
			if s.r.IntN(2) == 0 {
				b.Head = a.Head
				copy(b.Body, a.Body[:s.r.IntN(len(a.Body)+1)])
			}
			want := term.CompareList(flat(a), flat(b))
			if got, back := normal.Compare(a, b), normal.Compare(b, a); got != want || back != -want || (got == 0) != equalRules(a, b) {
				t.Fatalf("%s and %s: %d and %d", printer.Rule(a), printer.Rule(b), got, back)
			}
		}
	}
}

// P8.2: comparison with another way of finding normal forms
func TestRuleIsTheLeast(t *testing.T) {
	met := map[int]int{}
	for _, s := range sources(2) {
		for range 100 {
			r := s.rule()
			got, err := normal.Rule(r)
			if want := form(r); err != api.OK || !equalRules(got, want) {
				t.Fatalf("%s has the normal form %s, %d, not %s", printer.Rule(r), printer.Rule(got), err, printer.Rule(want))
			}
			met[len(vars(r))]++
		}
	}
	for n := range api.MaxVars + 1 {
		if met[n] < 3 {
			t.Error("too few rules with a number of variables:", met)
		}
	}
}

// P8.2, P8.3: comparison with the normal forms
func TestSameAndEqual(t *testing.T) {
	counts := map[bool]int{}
	s := source{r: rand.New(rand.NewPCG(8, 3)), variables: []string{"X", "Y"}, literals: 2, args: 1}
	for range 3000 {
		a, b := []api.Rule{s.rule(), s.rule()}, []api.Rule{s.rule(), s.rule()}
		x, _ := normal.Rule(a[0])
		y, _ := normal.Rule(b[0])
		same, err := normal.Same(a[0], b[0])
		if same != equalRules(x, y) || err != api.OK {
			t.Fatalf("Same of %s and %s is %v, %d", printer.Rule(a[0]), printer.Rule(b[0]), same, err)
		}
		counts[same]++
		if s.r.IntN(2) == 0 {
			b[1] = a[0]
		}
		l, _ := normal.Rules(a)
		m, _ := normal.Rules(b)
		if same, err := normal.Equal(a, b); same != slices.EqualFunc(l, m, equalRules) || err != api.OK {
			t.Fatalf("Equal of %s and %s is %v, %d", show(a), show(b), same, err)
		}
	}
	if counts[true] < 20 || counts[false] < 20 {
		t.Error("too few cases of a kind:", counts)
	}
}

// P8.4
func TestIdempotence(t *testing.T) {
	for _, s := range sources(4) {
		var l []api.Rule
		for range 100 {
			r := s.rule()
			once, _ := normal.Rule(r)
			twice, err := normal.Rule(once)
			if err != api.OK || !equalRules(once, twice) {
				t.Fatalf("%s has the normal form %s, and that %s, %d", printer.Rule(r), printer.Rule(once), printer.Rule(twice), err)
			}
			l = append(l, r)
		}
		once, _ := normal.Rules(l)
		twice, err := normal.Rules(once)
		if err != api.OK || !slices.EqualFunc(once, twice, equalRules) {
			t.Fatalf("a description has the normal form %s, and that %s, %d", show(once), show(twice), err)
		}
	}
}

// disguised is a rule with other variables, its literals in another order, and some of them repeated.
func (s source) disguised(r api.Rule) api.Rule {
	names := map[string]string{}
	fresh := []string{"V1", "V2", "V3", "V4", "V5", "Z", "A", "Xy"}
	s.r.Shuffle(len(fresh), func(i, k int) { fresh[i], fresh[k] = fresh[k], fresh[i] })
	for i, v := range vars(r) {
		names[v] = fresh[i]
	}
	r = renamed(r, names)
	for len(r.Body) > 0 && len(r.Body) < api.MaxBody && s.r.IntN(2) == 0 {
		r.Body = append(r.Body, r.Body[s.r.IntN(len(r.Body))])
	}
	s.r.Shuffle(len(r.Body), func(i, k int) { r.Body[i], r.Body[k] = r.Body[k], r.Body[i] })
	return r
}

// P8.5
func TestInvariance(t *testing.T) {
	for _, s := range sources(5) {
		for range 200 {
			r := s.rule()
			u := s.disguised(r)
			want, _ := normal.Rule(r)
			got, err := normal.Rule(u)
			if same, _ := normal.Same(r, u); !same || err != api.OK || !equalRules(got, want) {
				t.Fatalf("%s has the normal form %s, but %s has %s, %d", printer.Rule(r), printer.Rule(want), printer.Rule(u), printer.Rule(got), err)
			}
		}
	}
}

// P8.3, P8.7
func TestLists(t *testing.T) {
	for _, s := range sources(6) {
		for range 20 {
			var l, m []api.Rule
			var want []api.Rule
			for range s.r.IntN(30) {
				r := s.rule()
				l = append(l, r)
				m = append(m, s.disguised(r))
				x, _ := normal.Rule(r)
				if !slices.ContainsFunc(want, func(o api.Rule) bool { return equalRules(o, x) }) {
					want = append(want, x)
				}
			}
			slices.SortFunc(want, func(a, b api.Rule) int { return term.CompareList(flat(a), flat(b)) })
			for len(m) > 0 && len(m) < api.MaxRules && s.r.IntN(8) > 0 {
				m = append(m, s.disguised(m[s.r.IntN(len(m))]))
			}
			s.r.Shuffle(len(m), func(i, k int) { m[i], m[k] = m[k], m[i] })
			got, err := normal.Rules(l)
			again, repeated := normal.Rules(m)
			if err != api.OK || repeated != api.OK || !slices.EqualFunc(got, want, equalRules) || !slices.EqualFunc(again, want, equalRules) {
				t.Fatalf("%s has the normal form %s, not %s; %s has %s", show(l), show(got), show(want), show(m), show(again))
			}
			if same, err := normal.Equal(l, m); !same || err != api.OK {
				t.Fatalf("Equal of %s and %s is %v, %d", show(l), show(m), same, err)
			}
		}
	}
}

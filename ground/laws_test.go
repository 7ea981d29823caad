package ground_test

import (
	"cmp"
	"maps"
	"math/rand/v2"
	"slices"
	"strings"
	"testing"

	"gameplayer/api"
	"gameplayer/check"
	"gameplayer/ground"
	"gameplayer/parser"
	"gameplayer/printer"
	"gameplayer/relax"
	"gameplayer/term"
	"gameplayer/unify"
)

// gather adds the parts of terms, by their texts.
func gather(l []api.Term, into map[string]api.Term) {
	for _, t := range l {
		into[term.Text(t)] = t
		gather(t.Args, into)
	}
}

// each gives variables all values in all ways.
func each(vars []string, values []api.Term, s map[string]api.Term, do func()) {
	if len(vars) == 0 {
		do()
		return
	}
	for _, t := range values {
		s[vars[0]] = t
		each(vars[1:], values, s, do)
	}
}

// replaced is the text of a term in which variables are replaced.
func replaced(t api.Term, s map[string]api.Term) string {
	if x, ok := s[t.Name]; ok && len(t.Args) == 0 {
		return term.Text(x)
	}
	text := t.Name
	for i, x := range t.Args {
		text += string("(,"[min(i, 1)]) + replaced(x, s)
	}
	if len(t.Args) > 0 {
		text += ")"
	}
	return text
}

// compareRules orders ground rules.
func compareRules(a, b api.GroundRule) int {
	if a.Head != b.Head {
		return cmp.Compare(a.Head, b.Head)
	}
	if c := slices.Compare(a.Pos, b.Pos); c != 0 {
		return c
	}
	return slices.Compare(a.Neg, b.Neg)
}

func equalRules(a, b []api.GroundRule) bool {
	return slices.EqualFunc(a, b, func(x, y api.GroundRule) bool { return compareRules(x, y) == 0 })
}

func sorted(l []api.GroundRule) []api.GroundRule {
	slices.SortFunc(l, compareRules)
	return slices.CompactFunc(l, func(x, y api.GroundRule) bool { return compareRules(x, y) == 0 })
}

// simpleInstances replaces the variables of a rule by all terms that occur in atoms, in all ways.
func simpleInstances(r api.Rule, atoms []api.Term) []api.GroundRule {
	number := map[string]int{}
	parts := map[string]api.Term{}
	for i, t := range atoms {
		number[term.Text(t)] = i
		gather(t.Args, parts)
	}
	names := map[string]api.Term{}
	gather([]api.Term{r.Head}, names)
	for _, x := range r.Body {
		gather(x.Atom.Args, names)
	}
	vars := slices.DeleteFunc(slices.Sorted(maps.Keys(names)), func(s string) bool { return s[0] < 'A' || s[0] > 'Z' })
	var l []api.GroundRule
	s := map[string]api.Term{}
	each(vars, slices.Collect(maps.Values(parts)), s, func() {
		if x, ok := simpleInstance(r, number, s); ok {
			l = append(l, x)
		}
	})
	return sorted(l)
}

// simpleInstance is the ground rule of one instance, if there is one.
func simpleInstance(r api.Rule, number map[string]int, s map[string]api.Term) (api.GroundRule, bool) {
	head, ok := number[replaced(r.Head, s)]
	if !ok {
		return api.GroundRule{}, false
	}
	pos, neg := map[int]bool{}, map[int]bool{}
	for _, x := range r.Body {
		if x.Atom.Name == "distinct" {
			if (replaced(x.Atom.Args[0], s) == replaced(x.Atom.Args[1], s)) != x.Not {
				return api.GroundRule{}, false
			}
			continue
		}
		i, known := number[replaced(x.Atom, s)]
		switch {
		case known && x.Not:
			neg[i] = true
		case known:
			pos[i] = true
		case !x.Not:
			return api.GroundRule{}, false
		}
	}
	for i := range pos {
		if neg[i] || i == head {
			return api.GroundRule{}, false
		}
	}
	return api.GroundRule{Head: head, Pos: slices.Sorted(maps.Keys(pos)), Neg: slices.Sorted(maps.Keys(neg))}, true
}

// anyTerm makes a term over a few constants and variables.
func anyTerm(r *rand.Rand, vars string, deep int) string {
	if deep > 0 && r.IntN(4) == 0 {
		s := "f(" + anyTerm(r, vars, deep-1)
		if r.IntN(3) == 0 {
			s += "," + anyTerm(r, vars, deep-1)
		}
		return s + ")"
	}
	choices := strings.Fields("a b 1 " + strings.Repeat(vars+" ", 4))
	return choices[r.IntN(len(choices))]
}

// anyAtom makes an atom with one of some relations, each of which is followed by its number of arguments.
func anyAtom(r *rand.Rand, relations, vars string, deep int) string {
	choices := strings.Fields(relations)
	s := choices[r.IntN(len(choices))]
	var args []string
	for range int(s[len(s)-1] - '0') {
		args = append(args, anyTerm(r, vars, deep))
	}
	if len(args) == 0 {
		return s[:len(s)-1]
	}
	return s[:len(s)-1] + "(" + strings.Join(args, ",") + ")"
}

const own = "p0 q1 q1 q1 r2 r2 s1 s3 true1"

// anyInstances makes a valid rule and, for the relations in it, a list of ground atoms.
func anyInstances(r *rand.Rand) (api.Rule, []api.Term) {
	deep := r.IntN(3)
	vars := strings.Join(strings.Fields("X Y Z")[:r.IntN(4)], " ")
	for {
		head := anyAtom(r, "p0 q1 q1 r2", vars, deep)
		var body []string
		for range r.IntN(6) {
			body = append(body, strings.Repeat("not ", r.IntN(4)/3)+anyAtom(r, own+" distinct2", vars, deep))
		}
		if len(body) > 0 {
			head += " if " + strings.Join(body, " and ")
		}
		x, _, e := parser.Rule(head + ".")
		if e != api.OK || check.Rule(x) != api.OK {
			continue
		}
		return x, anyAtoms(r, x, deep)
	}
}

// anyAtoms makes a list of ground atoms, some of which the atoms of a rule match.
func anyAtoms(r *rand.Rand, x api.Rule, deep int) []api.Term {
	var texts []string
	for range r.IntN(6) {
		texts = append(texts, anyAtom(r, own, "", deep))
	}
	s := map[string]api.Term{}
	for range r.IntN(5) {
		for _, v := range []string{"X", "Y", "Z"} {
			s[v] = terms(anyTerm(r, "", deep))[0]
		}
		texts = append(texts, replaced(x.Head, s))
		for _, y := range x.Body {
			if y.Atom.Name != "distinct" && r.IntN(6) > 0 {
				texts = append(texts, replaced(y.Atom, s))
			}
		}
	}
	var l []api.Term
	for _, text := range texts {
		if t, _, e := parser.Term(text); e == api.OK {
			l = append(l, t)
		}
	}
	return term.Sort(l)
}

// P13.1: comparison with all ways to replace variables
func TestInstancesAgainstAllWays(t *testing.T) {
	r := rand.New(rand.NewPCG(13, 1))
	some, many, negated := 0, 0, 0
	for range 12000 {
		x, list := anyInstances(r)
		want := simpleInstances(x, list)
		got, e := ground.Instances(x, list)
		if !equalRules(got, want) || e != api.OK {
			t.Fatalf("Instances(%s; %s) is %s, %d, want %s", printer.Rule(x), printer.Terms(list), short(got), e, short(want))
		}
		some += min(len(got), 1)
		many += min(len(got)/4, 1)
		if slices.ContainsFunc(got, func(y api.GroundRule) bool { return len(y.Neg) > 0 }) {
			negated++
		}
	}
	if some < 4000 || many < 500 || negated < 500 {
		t.Error(some, many, negated)
	}
}

// tight makes a rule with five variables that are tied by many literals, and a list of few terms.
func tight(r *rand.Rand) (api.Rule, []api.Term) {
	vars := strings.Fields("A B C D E")
	variable := func() string { return vars[r.IntN(5)] }
	var body []string
	for _, v := range vars {
		body = append(body, "e("+v+","+variable()+")")
	}
	for range r.IntN(4) {
		choices := []string{"e(" + variable() + "," + variable() + ")", "not e(" + variable() + "," + variable() + ")", "n(" + variable() + ")", "not n(" + variable() + ")", "distinct(" + variable() + "," + variable() + ")", "not distinct(" + variable() + ",f(" + variable() + "))", "distinct(g(" + variable() + "," + variable() + "),g(" + variable() + "," + variable() + "))"}
		body = append(body, choices[r.IntN(len(choices))])
	}
	r.Shuffle(len(body), func(i, j int) { body[i], body[j] = body[j], body[i] })
	heads := []string{"p", "e(" + variable() + "," + variable() + ")", "n(" + variable() + ")"}
	values := strings.Fields("a b c f(a)")[:2+r.IntN(3)]
	texts := []string{"p"}
	for range 1 + r.IntN(11) {
		texts = append(texts, "e("+values[r.IntN(len(values))]+","+values[r.IntN(len(values))]+")")
		if r.IntN(3) == 0 {
			texts = append(texts, "n("+values[r.IntN(len(values))]+")")
		}
	}
	return rule(heads[r.IntN(3)] + " if " + strings.Join(body, " and ") + "."), term.Sort(terms(strings.Join(texts, ",")))
}

// P13.1: comparison with all ways to replace variables that are tied, so that most ways fail
func TestTightInstancesAgainstAllWays(t *testing.T) {
	r := rand.New(rand.NewPCG(13, 11))
	some, none := 0, 0
	for range 3000 {
		x, list := tight(r)
		want := simpleInstances(x, list)
		got, e := ground.Instances(x, list)
		if !equalRules(got, want) || e != api.OK {
			t.Fatalf("Instances(%s; %s) is %s, %d, want %s", printer.Rule(x), printer.Terms(list), short(got), e, short(want))
		}
		if len(got) > 0 {
			some++
		} else {
			none++
		}
	}
	if some < 500 || none < 500 {
		t.Error(some, none)
	}
}

// common are rules with which games have more atoms.
const common = "init(a). init(f(a)). r(a,b). r(b,x). r(x,f(1)). r(f(1),1). q(a). q(f(b)). q(f(X)) if q(X). next(Y) if true(X) and r(X,Y). next(X) if does(x,X) and not true(X). q(X) if r(X,Y) and not r(Y,X). q(X) if true(X). r(X,Z) if r(X,Y) and r(Y,Z). s(X,Y,Y) if q(X) and q(Y) and distinct(X,Y). legal(R,X) if role(R) and true(X). legal(x,f(X)) if q(X) and not p and not distinct(X,a). sees(x,X) if does(R,X) and distinct(R,x). terminal if true(X) and r(X,X). goal(x,1) if s(X,Y,Y) and not q(Y)."

// anyRule makes the text of a rule.
func anyRule(r *rand.Rand, deep int) string {
	if r.IntN(2) == 0 {
		choices := strings.SplitAfter(common, ". ")
		return choices[r.IntN(len(choices))]
	}
	vars := strings.Join(strings.Fields("X Y Z")[:1+r.IntN(3)], " ")
	head := anyAtom(r, "p0 q1 r2 s3 init1 next1 legal2 goal2 terminal0 sees2", vars, deep)
	var body []string
	for range 1 + r.IntN(3) {
		body = append(body, strings.Repeat("not ", r.IntN(4)/3)+anyAtom(r, "p0 q1 q1 r2 r2 s3 true1 does2 distinct2 role1", vars, deep))
	}
	return head + " if " + strings.Join(body, " and ") + "."
}

// anyGame makes a valid description.
func anyGame(r *rand.Rand) []api.Rule {
	l := read("role(x). role(a).")
	deep := r.IntN(3)
	for count := r.IntN(30); count > 0; {
		x, _, e := parser.Rule(anyRule(r, deep))
		if e != api.OK {
			continue
		}
		if _, e := check.Rules(append(slices.Clone(l), x)); e == api.OK {
			l = append(l, x)
			count--
		}
	}
	r.Shuffle(len(l), func(i, j int) { l[i], l[j] = l[j], l[i] })
	return l
}

// P13.2, P13.5: the possible atoms, and the ground rules of each rule over these
func TestRulesAreInstances(t *testing.T) {
	r := rand.New(rand.NewPCG(13, 2))
	counts := map[api.Errno]int{}
	long := 0
	for range 1500 {
		l := anyGame(r)
		list, wantError := relax.Atoms(l)
		var want []api.GroundRule
		for _, x := range l {
			part, e := ground.Instances(x, list)
			if wantError == api.OK {
				wantError = e
			}
			want = append(want, part...)
		}
		want = sorted(want)
		if wantError == api.OK && len(want) > api.MaxGround {
			wantError = api.ErrTooLarge
		}
		if wantError != api.OK {
			list, want = nil, nil
		}
		g, e := ground.Rules(l)
		if e != wantError || term.CompareList(g.Atoms, list) != 0 || !equalRules(g.Rules, want) {
			t.Fatalf("Rules(%v) is %s; %s, %d, want %s; %s, %d", l, printer.Terms(g.Atoms), short(g.Rules), e, printer.Terms(list), short(want), wantError)
		}
		if !ground.Valid(g) {
			t.Fatalf("Rules(%v) is not valid", l)
		}
		counts[e]++
		long += min(len(g.Rules)/20, 1)
	}
	if counts[api.OK] < 1000 || counts[api.ErrDepth] < 50 || long < 150 {
		t.Error(counts, long)
	}
}

// P13.2: comparison with all ways to replace variables
func TestRulesAgainstAllWays(t *testing.T) {
	r := rand.New(rand.NewPCG(13, 22))
	compared, long := 0, 0
	for range 1500 {
		l := anyGame(r)
		g, e := ground.Rules(l)
		if e != api.OK || len(g.Atoms) > 40 {
			continue
		}
		var want []api.GroundRule
		for _, x := range l {
			want = append(want, simpleInstances(x, g.Atoms)...)
		}
		if want = sorted(want); !equalRules(g.Rules, want) {
			t.Fatalf("Rules(%v) is %s, want %s", l, short(g.Rules), short(want))
		}
		compared++
		long += min(len(want)/20, 1)
	}
	if compared < 500 || long < 50 {
		t.Error(compared, long)
	}
}

// P13.6
func TestMoreAtoms(t *testing.T) {
	r := rand.New(rand.NewPCG(13, 6))
	kept, added := 0, 0
	for range 6000 {
		x, list := anyInstances(r)
		x.Body = slices.DeleteFunc(x.Body, func(y api.Literal) bool { return y.Not && y.Atom.Name != "distinct" })
		more := term.Sort(slices.Concat(list, anyAtoms(r, x, 2)))
		first, e := ground.Instances(x, list)
		second, f := ground.Instances(x, more)
		if e != api.OK || f != api.OK {
			t.Fatal(e, f)
		}
		for _, y := range first {
			if translated := translate(y, list, more); !slices.ContainsFunc(second, func(z api.GroundRule) bool { return compareRules(translated, z) == 0 }) {
				t.Fatalf("%s over %s has %s, but over %s has %s", printer.Rule(x), printer.Terms(list), short(first), printer.Terms(more), short(second))
			}
			kept++
		}
		added += len(second) - len(first)
	}
	if kept < 4000 || added < 2000 {
		t.Error(kept, added)
	}
}

// translate is a ground rule with the numbers that its atoms have in another list.
func translate(r api.GroundRule, from, to []api.Term) api.GroundRule {
	x := api.GroundRule{Head: term.Find(to, from[r.Head])}
	for _, i := range r.Pos {
		x.Pos = append(x.Pos, term.Find(to, from[i]))
	}
	slices.Sort(x.Pos)
	return x
}

// matched reports whether a rule matches a ground rule, literal by literal.
func matched(r api.Rule, atoms []api.Term, x api.GroundRule) bool {
	s, ok := unify.Match(r.Head, atoms[x.Head], nil)
	var pos []api.Term
	for _, y := range r.Body {
		if !y.Not && y.Atom.Name != "distinct" {
			pos = append(pos, y.Atom)
		}
	}
	return ok && matchedFrom(pos, r, atoms, x, s)
}

// matchedFrom goes on with the literals that are not negated; when these are matched, the others have no variables.
func matchedFrom(pos []api.Term, r api.Rule, atoms []api.Term, x api.GroundRule, s []api.Binding) bool {
	if len(pos) > 0 {
		return slices.ContainsFunc(x.Pos, func(i int) bool {
			longer, ok := unify.Match(pos[0], atoms[i], s)
			return ok && matchedFrom(pos[1:], r, atoms, x, longer)
		})
	}
	var used, unused []int
	for _, y := range unify.ApplyRule(s, r).Body {
		i := term.Find(atoms, y.Atom)
		switch {
		case y.Atom.Name == "distinct":
			if y.Not != (term.Compare(y.Atom.Args[0], y.Atom.Args[1]) == 0) {
				return false
			}
		case y.Not && i >= 0:
			unused = append(unused, i)
		case !y.Not:
			used = append(used, i)
		}
	}
	slices.Sort(used)
	slices.Sort(unused)
	return slices.Equal(slices.Compact(used), x.Pos) && slices.Equal(slices.Compact(unused), x.Neg)
}

// P13.7
func TestInstancesMatch(t *testing.T) {
	r := rand.New(rand.NewPCG(13, 7))
	count := 0
	for i := range 8000 {
		x, list := anyInstances(r)
		if i%4 == 0 {
			x, list = tight(r)
		}
		l, _ := ground.Instances(x, list)
		for _, y := range l {
			if !matched(x, list, y) {
				t.Fatalf("Instances(%s; %s) has %s", printer.Rule(x), printer.Terms(list), short([]api.GroundRule{y}))
			}
			count++
		}
	}
	if count < 5000 {
		t.Error(count)
	}
}

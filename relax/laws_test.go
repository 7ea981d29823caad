package relax_test

import (
	"maps"
	"math/rand/v2"
	"slices"
	"strings"
	"testing"

	"gameplayer/api"
	"gameplayer/check"
	"gameplayer/parser"
	"gameplayer/printer"
	"gameplayer/relax"
	"gameplayer/term"
)

// replaced is a term in which variables are replaced.
func replaced(t api.Term, values map[string]api.Term) api.Term {
	if v, ok := values[t.Name]; ok && len(t.Args) == 0 {
		return v
	}
	x := api.Term{Name: t.Name}
	for _, y := range t.Args {
		x.Args = append(x.Args, replaced(y, values))
	}
	return x
}

// depth is the depth of the parentheses of a text.
func depth(text string) int {
	now, most := 1, 1
	for _, c := range text {
		switch c {
		case '(':
			now++
		case ')':
			now--
		}
		most = max(most, now)
	}
	return most
}

// simpleRound replaces the variables of each rule by all terms that occur in atoms, in all ways.
func simpleRound(l []api.Rule, atoms []api.Term) ([]api.Term, api.Errno) {
	yielded, set, values := map[string]api.Term{}, map[string]bool{}, map[string]api.Term{}
	for _, t := range atoms {
		yielded[term.Text(t)] = t
		set[term.Text(t)] = true
		gather(t.Args, values)
		switch {
		case (t.Name == "init" || t.Name == "next") && len(t.Args) == 1:
			x := f("true", t.Args...)
			yielded[term.Text(x)] = x
		case t.Name == "legal" && len(t.Args) == 2:
			x := f("does", t.Args...)
			yielded[term.Text(x)] = x
		}
	}
	for _, r := range l {
		each(variables(r), slices.Collect(maps.Values(values)), map[string]api.Term{}, func(values map[string]api.Term) {
			if bodyHolds(r, values, set) {
				x := replaced(r.Head, values)
				yielded[term.Text(x)] = x
			}
		})
	}
	for text := range yielded {
		if depth(text) > 4 {
			return nil, api.ErrDepth
		}
	}
	if len(yielded) > 512 {
		return nil, api.ErrTooLarge
	}
	return slices.SortedFunc(maps.Values(yielded), term.Compare), api.OK
}

// gather adds terms and all of their parts.
func gather(l []api.Term, into map[string]api.Term) {
	for _, t := range l {
		into[term.Text(t)] = t
		gather(t.Args, into)
	}
}

// variables are the variables of a rule, each once.
func variables(r api.Rule) []string {
	found := map[string]api.Term{}
	gather([]api.Term{r.Head}, found)
	for _, x := range r.Body {
		gather([]api.Term{x.Atom}, found)
	}
	return slices.DeleteFunc(slices.Sorted(maps.Keys(found)), func(s string) bool { return s[0] < 'A' || s[0] > 'Z' })
}

// each gives variables all values in all ways.
func each(vars []string, choices []api.Term, values map[string]api.Term, do func(values map[string]api.Term)) {
	if len(vars) == 0 {
		do(values)
		return
	}
	for _, t := range choices {
		values[vars[0]] = t
		each(vars[1:], choices, values, do)
	}
}

func bodyHolds(r api.Rule, values map[string]api.Term, set map[string]bool) bool {
	for _, x := range r.Body {
		t := replaced(x.Atom, values)
		switch {
		case t.Name == "distinct":
			if (term.Text(t.Args[0]) == term.Text(t.Args[1])) != x.Not {
				return false
			}
		case !x.Not && !set[term.Text(t)]:
			return false
		}
	}
	return true
}

// anyTerm makes a term over a few constants and variables.
func anyTerm(r *rand.Rand, vars string, deep int) string {
	if deep > 0 && r.IntN(4) == 0 {
		s := "f(" + anyTerm(r, vars, deep-1)
		if r.IntN(4) == 0 {
			s += "," + anyTerm(r, vars, deep-1)
		}
		return s + ")"
	}
	choices := strings.Fields("a b x 1 " + strings.Repeat(vars+" ", 5))
	return choices[r.IntN(len(choices))]
}

// anyAtom makes an atom with one of some relations, each of which is followed by its number of arguments.
func anyAtom(r *rand.Rand, relations, vars string, deep int) string {
	choices := strings.Fields(relations)
	s := choices[r.IntN(len(choices))]
	name, n := s[:len(s)-1], int(s[len(s)-1]-'0')
	var args []string
	for range n {
		args = append(args, anyTerm(r, vars, deep))
	}
	if n == 0 {
		return name
	}
	return name + "(" + strings.Join(args, ",") + ")"
}

const own = "p0 q1 q1 r2 r2 s3"

// common are rules with which the derivations are longer.
const common = "init(a). init(f(a)). r(a,b). r(b,x). r(x,f(1)). r(f(1),1). q(a). q(f(b)). next(Y) if true(X) and r(X,Y). next(X) if does(x,X). next(f(X)) if does(a,X). q(f(X)) if q(X). q(X) if r(X,Y) and not r(Y,X). q(X) if true(X). r(f(X),f(Y)) if r(X,Y). r(X,Z) if r(X,Y) and r(Y,Z). s(X,Y,Y) if q(X) and q(Y) and distinct(X,Y). legal(R,X) if role(R) and true(X). legal(x,f(X)) if q(X) and not p. sees(x,X) if does(R,X) and distinct(R,x). terminal if true(X) and r(X,X). goal(x,1) if s(X,Y,Y) and not q(Y)."

// anyRule makes the text of a rule.
func anyRule(r *rand.Rand, deep int) string {
	if r.IntN(2) == 0 {
		choices := strings.SplitAfter(common, ". ")
		return choices[r.IntN(len(choices))]
	}
	vars := strings.Join(strings.Fields("X Y Z")[:1+r.IntN(3)], " ")
	if r.IntN(4) == 0 {
		return anyAtom(r, own+" init1 init1 legal2", "", deep) + "."
	}
	head := anyAtom(r, own+" "+own+" init1 next1 legal2 goal2 terminal0 sees2", vars, deep)
	var body []string
	for range 1 + r.IntN(3) {
		body = append(body, strings.Repeat("not ", r.IntN(5)/4)+anyAtom(r, own+" "+own+" true1 does2 distinct2 role1", vars, deep))
	}
	return head + " if " + strings.Join(body, " and ") + "."
}

// anyGame makes a valid description.
func anyGame(r *rand.Rand) []api.Rule {
	l := read("role(x). role(a).")
	deep := r.IntN(4)
	for count := r.IntN(20); count > 0; {
		x, _, e := parser.Rule(anyRule(r, deep))
		if e != api.OK {
			continue
		}
		if _, e := check.Rules(append(slices.Clone(l), x)); e == api.OK {
			l = append(l, x)
			count--
		}
	}
	r.Shuffle(len(l), func(i, j int) { l[i], l[j] = l[j], l[i] })
	return l
}

// anyAtoms makes a list of ground atoms.
func anyAtoms(r *rand.Rand, n int) []api.Term {
	var texts []string
	for range r.IntN(n) {
		texts = append(texts, anyAtom(r, own+" "+own+" true1 does2 role1 init1 next1 legal2 goal2 sees2 distinct2", "", 2))
	}
	return terms(strings.Join(texts, ","))
}

func equal(a, b []api.Term) bool { return term.CompareList(a, b) == 0 }

// contained reports whether all terms of a list are in an ascending one.
func contained(a, b []api.Term) bool {
	return !slices.ContainsFunc(a, func(t api.Term) bool { return term.Find(b, t) < 0 })
}

// P12.1: comparison with all ways to replace variables
func TestRoundAgainstAllInstances(t *testing.T) {
	r := rand.New(rand.NewPCG(12, 1))
	counts := map[api.Errno]int{}
	grown := 0
	for range 2500 {
		l, atoms := anyGame(r), anyAtoms(r, 12)
		want, wantError := simpleRound(l, atoms)
		got, e := relax.Round(l, atoms)
		if e != wantError || !equal(got, want) {
			t.Fatalf("Round(%v; %s) is %s, %d, want %s, %d", l, printer.Terms(atoms), printer.Terms(got), e, printer.Terms(want), wantError)
		}
		counts[e]++
		if len(got) > len(atoms)+4 {
			grown++
		}
	}
	if counts[api.OK] < 1000 || counts[api.ErrDepth] < 100 || grown < 500 {
		t.Error(counts, grown)
	}
}

// P12.2: comparison with rounds; P12.4: the result is closed
func TestAtomsAgainstRounds(t *testing.T) {
	r := rand.New(rand.NewPCG(12, 2))
	counts := map[api.Errno]int{}
	long := 0
	for range 2500 {
		l := anyGame(r)
		got, e := relax.Atoms(l)
		var want []api.Term
		rounds := 0
		for {
			next, wantError := relax.Round(l, want)
			if e != wantError && wantError != api.OK {
				t.Fatalf("Atoms(%v) is %d, want %d", l, e, wantError)
			}
			if wantError != api.OK || equal(next, want) {
				want = next
				break
			}
			want = next
			rounds++
		}
		if !equal(got, want) {
			t.Fatalf("Atoms(%v) is %s, %d, want %s", l, printer.Terms(got), e, printer.Terms(want))
		}
		counts[e]++
		if rounds > 4 {
			long++
		}
	}
	if counts[api.OK] < 1000 || counts[api.ErrDepth] < 100 || long < 100 {
		t.Error(counts, long)
	}
}

// P12.2: comparison with all ways to replace variables, from the empty list on
func TestAtomsAgainstAllInstances(t *testing.T) {
	r := rand.New(rand.NewPCG(12, 22))
	for range 1500 {
		l := anyGame(r)
		want, wantError := simpleRound(l, nil)
		for wantError == api.OK && len(want) < 40 {
			next, e := simpleRound(l, want)
			if e == api.OK && equal(next, want) {
				break
			}
			want, wantError = next, e
		}
		got, e := relax.Atoms(l)
		if len(want) < 40 && (e != wantError || !equal(got, want)) {
			t.Fatalf("Atoms(%v) is %s, %d, want %s, %d", l, printer.Terms(got), e, printer.Terms(want), wantError)
		}
	}
}

// P12.3: comparison with the texts of the atoms
func TestArgumentsByText(t *testing.T) {
	r := rand.New(rand.NewPCG(12, 3))
	for range 2000 {
		atoms := anyAtoms(r, 30)
		for beginning, got := range map[string][]api.Term{"true(": relax.Bases(atoms), "does(x,": relax.Moves(atoms, f("x")), "does(1,": relax.Moves(atoms, f("1")), "sees(a,": relax.Percepts(atoms, f("a")), "sees(f(b),": relax.Percepts(atoms, f("f", f("b")))} {
			want := map[string]bool{}
			for _, x := range atoms {
				if rest, ok := strings.CutPrefix(term.Text(x), beginning); ok {
					want[strings.TrimSuffix(rest, ")")] = true
				}
			}
			for i, x := range got {
				if !want[term.Text(x)] || i > 0 && term.Compare(got[i-1], x) >= 0 {
					t.Fatalf("%s of %s is %s", beginning, printer.Terms(atoms), printer.Terms(got))
				}
			}
			if len(got) != len(want) {
				t.Fatalf("%s of %s is %s", beginning, printer.Terms(atoms), printer.Terms(got))
			}
		}
	}
}

// P12.5: closed lists that contain more
func TestAtomsAreLeast(t *testing.T) {
	r := rand.New(rand.NewPCG(12, 5))
	larger := 0
	for range 1200 {
		l := anyGame(r)
		atoms, e := relax.Atoms(l)
		if e != api.OK {
			continue
		}
		closed := anyAtoms(r, 8)
		f := api.OK
		for {
			next, again := relax.Round(l, closed)
			if f = again; f != api.OK || equal(next, closed) {
				break
			}
			closed = next
		}
		if f == api.OK && !contained(atoms, closed) {
			t.Fatalf("Atoms(%v) is %s, but %s is closed", l, printer.Terms(atoms), printer.Terms(closed))
		}
		if len(closed) > len(atoms) {
			larger++
		}
	}
	if larger < 150 {
		t.Error(larger)
	}
}

// P12.6
func TestMonotony(t *testing.T) {
	r := rand.New(rand.NewPCG(12, 6))
	for range 1500 {
		l, atoms := anyGame(r), anyAtoms(r, 20)
		more := slices.Concat(anyAtoms(r, 20), atoms)
		r.Shuffle(len(more), func(i, j int) { more[i], more[j] = more[j], more[i] })
		first, e := relax.Round(l, atoms)
		second, f := relax.Round(l, more)
		if e == api.OK && f == api.OK && !contained(first, second) {
			t.Fatalf("Round(%v; %s) is %s, but for more atoms %s", l, printer.Terms(atoms), printer.Terms(first), printer.Terms(second))
		}
		if e != api.OK && f == api.OK {
			t.Fatalf("Round(%v; %s) is %d, but %s for more atoms", l, printer.Terms(atoms), e, printer.Terms(second))
		}
	}
}

// P12.7
func TestNegationsAreIgnored(t *testing.T) {
	r := rand.New(rand.NewPCG(12, 7))
	removed := 0
	for range 1500 {
		l := anyGame(r)
		without := slices.Clone(l)
		for i, x := range l {
			without[i].Body = slices.DeleteFunc(slices.Clone(x.Body), func(y api.Literal) bool { return y.Not && y.Atom.Name != "distinct" })
			removed += len(x.Body) - len(without[i].Body)
		}
		if _, e := check.Rules(without); e != api.OK {
			t.Fatal(without, e)
		}
		first, e := relax.Atoms(l)
		second, f := relax.Atoms(without)
		if e != f || !equal(first, second) {
			t.Fatalf("Atoms(%v) is %s, %d, but without negations %s, %d", l, printer.Terms(first), e, printer.Terms(second), f)
		}
	}
	if removed < 1000 {
		t.Error(removed)
	}
}

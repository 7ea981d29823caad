package prove_test

import (
	"maps"
	"math/rand/v2"
	"slices"
	"strings"
	"testing"

	"gameplayer/api"
	"gameplayer/check"
	"gameplayer/ground"
	"gameplayer/model"
	"gameplayer/parser"
	"gameplayer/printer"
	"gameplayer/prove"
	"gameplayer/relax"
	"gameplayer/strata"
	"gameplayer/term"
)

// set has atoms by their texts.
type set map[string]api.Term

func setOf(l []api.Term) set {
	s := set{}
	for _, t := range l {
		s[term.Text(t)] = t
	}
	return s
}

func (s set) list() []api.Term { return slices.SortedFunc(maps.Values(s), term.Compare) }

// replaced is a term in which variables are replaced.
func replaced(t api.Term, values map[string]api.Term) api.Term {
	if v, ok := values[t.Name]; ok && len(t.Args) == 0 {
		return v
	}
	x := api.Term{Name: t.Name}
	for _, y := range t.Args {
		x.Args = append(x.Args, replaced(y, values))
	}
	return x
}

// fits extends values so that a pattern becomes a term, if that is possible.
func fits(pattern, t api.Term, values map[string]api.Term) bool {
	if c := pattern.Name[0]; c >= 'A' && c <= 'Z' {
		known, ok := values[pattern.Name]
		values[pattern.Name] = t
		return !ok || term.Text(known) == term.Text(t)
	}
	if pattern.Name != t.Name || len(pattern.Args) != len(t.Args) {
		return false
	}
	for i, x := range pattern.Args {
		if !fits(x, t.Args[i], values) {
			return false
		}
	}
	return true
}

// simpleHeads adds the heads of all instances of a rule whose bodies hold: each literal that binds is matched with each atom.
func simpleHeads(r api.Rule, rest []api.Literal, atoms set, values map[string]api.Term, heads set) {
	for i, x := range rest {
		if x.Not || x.Atom.Name == "distinct" {
			continue
		}
		for _, t := range atoms {
			longer := maps.Clone(values)
			if fits(x.Atom, t, longer) {
				simpleHeads(r, rest[i+1:], atoms, longer, heads)
			}
		}
		return
	}
	for _, x := range r.Body {
		t := replaced(x.Atom, values)
		_, holds := atoms[term.Text(t)]
		if t.Name == "distinct" {
			holds = term.Text(t.Args[0]) != term.Text(t.Args[1])
		}
		if holds == x.Not {
			return
		}
	}
	head := replaced(r.Head, values)
	heads[term.Text(head)] = head
}

// depth is the depth of the parentheses of a text.
func depth(text string) int {
	now, most := 1, 1
	for _, c := range text {
		switch c {
		case '(':
			now++
		case ')':
			now--
		}
		most = max(most, now)
	}
	return most
}

// simpleRound yields the heads of all instances of some rules whose bodies hold.
func simpleRound(l []api.Rule, atoms set) (set, api.Errno) {
	heads := set{}
	for _, r := range l {
		simpleHeads(r, r.Body, atoms, map[string]api.Term{}, heads)
	}
	for text := range heads {
		if depth(text) > 4 {
			return nil, api.ErrDepth
		}
	}
	return heads, api.OK
}

// simpleLevels raises the strata of relations until they fit.
func simpleLevels(l []api.Rule) map[string]int {
	levels := map[string]int{}
	for raised := true; raised; {
		raised = false
		for _, r := range l {
			for _, x := range r.Body {
				least := levels[x.Atom.Name]
				if x.Not && x.Atom.Name != "distinct" {
					least++
				}
				if levels[r.Head.Name] < least {
					levels[r.Head.Name] = least
					raised = true
				}
			}
		}
	}
	return levels
}

// simpleFacts evaluates rules as the chapter defines it, and counts the rounds that yield something new.
func simpleFacts(l []api.Rule, given []api.Term) ([]api.Term, api.Errno, int) {
	levels := simpleLevels(l)
	atoms := setOf(given)
	rounds := 0
	for level := range len(l) + 1 {
		stratum := slices.DeleteFunc(slices.Clone(l), func(r api.Rule) bool { return levels[r.Head.Name] != level })
		for {
			before := len(atoms)
			heads, e := simpleRound(stratum, atoms)
			if e != api.OK {
				return nil, e, rounds
			}
			maps.Copy(atoms, heads)
			if len(atoms) > 512 {
				return nil, api.ErrTooLarge, rounds
			}
			if len(atoms) == before {
				break
			}
			rounds++
		}
	}
	return atoms.list(), api.OK, rounds
}

// anyTerm makes a term over a few constants and variables.
func anyTerm(r *rand.Rand, vars string, deep int) string {
	if deep > 0 && r.IntN(4) == 0 {
		s := "f(" + anyTerm(r, vars, deep-1)
		if r.IntN(4) == 0 {
			s += "," + anyTerm(r, vars, deep-1)
		}
		return s + ")"
	}
	choices := strings.Fields("a b x 1 " + strings.Repeat(vars+" ", 5))
	return choices[r.IntN(len(choices))]
}

// anyAtom makes an atom with one of some relations, each of which is followed by its number of arguments.
func anyAtom(r *rand.Rand, relations, vars string, deep int) string {
	choices := strings.Fields(relations)
	s := choices[r.IntN(len(choices))]
	name, n := s[:len(s)-1], int(s[len(s)-1]-'0')
	var args []string
	for range n {
		args = append(args, anyTerm(r, vars, deep))
	}
	if n == 0 {
		return name
	}
	return name + "(" + strings.Join(args, ",") + ")"
}

// common are rules with which the evaluations are longer.
const common = "r(a,b). r(b,x). r(x,f(1)). r(f(1),1). q(a). q(f(b)). next(Y) if true(X) and r(X,Y). next(X) if does(x,X) and not true(X). next(f(X)) if does(a,X). q(f(X)) if q(X). q(X) if true(X). r(f(X),f(Y)) if r(X,Y). r(X,Z) if r(X,Y) and r(Y,Z). s(X,Y,Y) if q(X) and q(Y) and distinct(X,Y). s(X,Y,X) if true(X) and true(Y) and not r(X,Y). u(X) if q(X) and not r(X,X) and not distinct(X,f(b)). u(X) if v(X). v(X) if u(X) and not p. w if not u(a). w(X) if true(X) and not w. z(X,Y) if r(X,Y) and not v(Y) and not u(X). legal(R,X) if role(R) and true(X). legal(x,f(X)) if q(X) and not p. sees(x,X) if does(R,X) and distinct(R,x). terminal if true(X) and r(X,X). goal(x,1) if s(X,Y,Y) and not q(Y). role(x)."

const own = "p0 q1 q1 r2 r2 s3 u1 v1 w0"

// anyRule makes the text of a rule.
func anyRule(r *rand.Rand, deep int) string {
	if r.IntN(2) == 0 {
		choices := strings.SplitAfter(common, ". ")
		return choices[r.IntN(len(choices))]
	}
	vars := strings.Join(strings.Fields("X Y Z")[:1+r.IntN(3)], " ")
	if r.IntN(4) == 0 {
		return anyAtom(r, own, "", deep) + "."
	}
	head := anyAtom(r, own+" "+own+" init1 next1 legal2 goal2 terminal0 sees2", vars, deep)
	var body []string
	for range 1 + r.IntN(4) {
		body = append(body, strings.Repeat("not ", r.IntN(3)/2)+anyAtom(r, own+" "+own+" true1 true1 does2 distinct2 role1", vars, deep))
	}
	return head + " if " + strings.Join(body, " and ") + "."
}

// anyRules makes rules that are valid one by one, and if wanted also together.
func anyRules(r *rand.Rand, together bool) []api.Rule {
	var l []api.Rule
	deep := r.IntN(3)
	for count := r.IntN(24); count > 0; {
		x, _, e := parser.Rule(anyRule(r, deep))
		if e != api.OK || check.Rule(x) != api.OK {
			continue
		}
		if _, e := strata.Levels(append(slices.Clone(l), x)); together && e != api.OK {
			continue
		}
		l = append(l, x)
		count--
	}
	r.Shuffle(len(l), func(i, j int) { l[i], l[j] = l[j], l[i] })
	return l
}

// anyAtoms makes ground atoms with some relations.
func anyAtoms(r *rand.Rand, n int, relations string) []api.Term {
	var texts []string
	for range r.IntN(n) {
		texts = append(texts, anyAtom(r, relations, "", 2))
	}
	return terms(strings.Join(texts, ","))
}

func equal(a, b []api.Term) bool { return term.CompareList(a, b) == 0 }

// P15.1: comparison with rounds in which each literal is matched with each atom
func TestFactsAgainstSimpleRounds(t *testing.T) {
	r := rand.New(rand.NewPCG(15, 1))
	counts := map[api.Errno]int{}
	long, large := 0, 0
	for range 3000 {
		l, given := anyRules(r, true), anyAtoms(r, 10, "true1 true1 does2")
		want, wantError, rounds := simpleFacts(l, given)
		got, e := prove.Facts(l, given)
		if e != wantError || !equal(got, want) {
			t.Fatalf("Facts(%v; %s) is %s, %d, want %s, %d", l, printer.Terms(given), printer.Terms(got), e, printer.Terms(want), wantError)
		}
		counts[e]++
		long += min(rounds/4, 1)
		large += min(len(got)/20, 1)
	}
	if counts[api.OK] < 1500 || counts[api.ErrDepth] < 300 || long < 300 || large < 200 {
		t.Error(counts, long, large)
	}
}

// P15.2: comparison with a round in which each literal is matched with each atom
func TestRoundAgainstSimpleRound(t *testing.T) {
	r := rand.New(rand.NewPCG(15, 2))
	counts := map[api.Errno]int{}
	several := 0
	for range 3000 {
		l, atoms := anyRules(r, false), anyAtoms(r, 30, own+" true1 does2 role1 distinct2 legal2")
		heads, wantError := simpleRound(l, setOf(atoms))
		got, e := prove.Round(l, atoms)
		if e != wantError || !equal(got, heads.list()) {
			t.Fatalf("Round(%v; %s) is %s, %d, want %s, %d", l, printer.Terms(atoms), printer.Terms(got), e, printer.Terms(heads.list()), wantError)
		}
		counts[e]++
		several += min(len(got)/10, 1)
	}
	if counts[api.OK] < 2000 || counts[api.ErrDepth] < 200 || several < 300 {
		t.Error(counts, several)
	}
}

// P15.3: Answers and Holds select atoms of Facts.
func TestAnswersAreFacts(t *testing.T) {
	r := rand.New(rand.NewPCG(15, 3))
	none, some := 0, 0
	for range 2000 {
		l, given := anyRules(r, true), anyAtoms(r, 10, "true1 true1 does2")
		pattern := terms(anyAtom(r, own+" true1 does2", "X Y", 1))[0]
		atoms, wantError := prove.Facts(l, given)
		var want []api.Term
		for _, x := range atoms {
			if fits(pattern, x, map[string]api.Term{}) {
				want = append(want, x)
			}
		}
		got, e := prove.Answers(l, given, pattern)
		if e != wantError || !equal(got, want) {
			t.Fatalf("Answers(%v; %s; %s) is %s, %d, want %s, %d", l, printer.Terms(given), term.Text(pattern), printer.Terms(got), e, printer.Terms(want), wantError)
		}
		none += 1 - min(len(got), 1)
		some += min(len(got), 1)
		for _, x := range append(anyAtoms(r, 4, own), got...) {
			holds, e := prove.Holds(l, given, x)
			if e != wantError || holds != (term.Find(atoms, x) >= 0) {
				t.Fatalf("Holds(%v; %s; %s) is %v, %d", l, printer.Terms(given), term.Text(x), holds, e)
			}
		}
	}
	if none < 500 || some < 250 {
		t.Error(none, some)
	}
}

// P15.5
func TestFactsAreStable(t *testing.T) {
	r := rand.New(rand.NewPCG(15, 5))
	compared := 0
	for range 2000 {
		l, given := anyRules(r, true), anyAtoms(r, 10, "true1 true1 does2")
		atoms, e := prove.Facts(l, given)
		if e != api.OK {
			continue
		}
		heads, e := prove.Round(l, atoms)
		if want := term.Sort(slices.Concat(given, heads)); e != api.OK || !equal(atoms, want) {
			t.Fatalf("Facts(%v; %s) is %s, but Round of it %s, %d", l, printer.Terms(given), printer.Terms(atoms), printer.Terms(heads), e)
		}
		compared += min(len(heads)/5, 1)
	}
	if compared < 400 {
		t.Error(compared)
	}
}

// P15.6: comparison with the model of the ground description
func TestFactsAgainstModel(t *testing.T) {
	r := rand.New(rand.NewPCG(15, 6))
	compared := 0
	for tries := 0; compared < 600 && tries < 20000; tries++ {
		l := append(anyRules(r, true), read("role(x). role(a). init(a). init(f(b)). init(1).")...)
		if _, e := check.Rules(l); e != api.OK {
			continue
		}
		g, e := ground.Rules(l)
		if e != api.OK {
			continue
		}
		var given, want []api.Term
		var numbers []int
		for i, x := range g.Atoms {
			if (x.Name == "true" || x.Name == "does") && r.IntN(2) == 0 {
				given = append(given, x)
				numbers = append(numbers, i)
			}
		}
		hold, e := model.Model(g, numbers)
		if e != api.OK {
			t.Fatal(l, e)
		}
		for _, i := range hold {
			want = append(want, g.Atoms[i])
		}
		got, e := prove.Facts(l, given)
		if e != api.OK || !equal(got, want) {
			t.Fatalf("Facts(%v; %s) is %s, %d, want %s", l, printer.Terms(given), printer.Terms(got), e, printer.Terms(want))
		}
		compared++
	}
	if compared < 600 {
		t.Error(compared)
	}
}

// P15.7
func TestOrderDoesNotMatter(t *testing.T) {
	r := rand.New(rand.NewPCG(15, 7))
	counts := map[api.Errno]int{}
	for range 2000 {
		l, given := anyRules(r, r.IntN(8) > 0), anyAtoms(r, 10, "true1 true1 does2")
		list, repeated := slices.Clone(l), slices.Clone(given)
		for range 3 {
			if len(l) > 0 {
				list = append(list, l[r.IntN(len(l))])
			}
			if len(given) > 0 {
				repeated = append(repeated, given[r.IntN(len(given))])
			}
		}
		r.Shuffle(len(list), func(i, j int) { list[i], list[j] = list[j], list[i] })
		r.Shuffle(len(repeated), func(i, j int) { repeated[i], repeated[j] = repeated[j], repeated[i] })
		want, wantError := prove.Facts(l, given)
		got, e := prove.Facts(list, repeated)
		if e != wantError || !equal(got, want) {
			t.Fatalf("Facts(%v; %s) is %s, %d, but Facts(%v; %s) %s, %d", l, printer.Terms(given), printer.Terms(want), wantError, list, printer.Terms(repeated), printer.Terms(got), e)
		}
		counts[e]++
		want, wantError = prove.Round(l, given)
		if got, e := prove.Round(list, repeated); e != wantError || !equal(got, want) {
			t.Fatalf("Round(%v; %s) is %s, %d, but Round(%v; %s) %s, %d", l, printer.Terms(given), printer.Terms(want), wantError, list, printer.Terms(repeated), printer.Terms(got), e)
		}
	}
	if counts[api.OK] < 1000 || counts[api.ErrDepth] < 100 || counts[api.ErrCycle] < 20 {
		t.Error(counts)
	}
}

// P15.8
func TestMoreAtomsAndRules(t *testing.T) {
	r := rand.New(rand.NewPCG(15, 8))
	compared, more := 0, 0
	for range 2500 {
		l, given := anyRules(r, false), anyAtoms(r, 10, "true1 true1 does2")
		l = slices.DeleteFunc(l, func(x api.Rule) bool {
			return slices.ContainsFunc(x.Body, func(y api.Literal) bool { return y.Not && y.Atom.Name != "distinct" })
		})
		part, some := l[:len(l)-r.IntN(len(l)+1)], given[:len(given)-r.IntN(len(given)+1)]
		all, e := prove.Facts(l, given)
		if e != api.OK {
			continue
		}
		fewer, e := prove.Facts(part, some)
		if e != api.OK || slices.ContainsFunc(fewer, func(x api.Term) bool { return term.Find(all, x) < 0 }) {
			t.Fatalf("Facts(%v; %s) is %s, %d, but with less %s", l, printer.Terms(given), printer.Terms(all), e, printer.Terms(fewer))
		}
		compared++
		more += min(max(len(all)-len(fewer)-8, 0), 1)
	}
	if compared < 1200 || more < 100 {
		t.Error(compared, more)
	}
}

// P15.6: the possible atoms contain what holds, if what is given is possible.
func TestFactsArePossible(t *testing.T) {
	r := rand.New(rand.NewPCG(15, 66))
	compared := 0
	for range 1200 {
		l := append(anyRules(r, true), read("role(x). role(a). init(a). init(f(b)).")...)
		possible, e := relax.Atoms(l)
		if e != api.OK {
			continue
		}
		given := slices.DeleteFunc(slices.Clone(possible), func(x api.Term) bool { return x.Name != "true" && x.Name != "does" || r.IntN(3) == 0 })
		atoms, e := prove.Facts(l, given)
		if e != api.OK || slices.ContainsFunc(atoms, func(x api.Term) bool { return term.Find(possible, x) < 0 }) {
			t.Fatalf("Facts(%v; %s) is %s, %d", l, printer.Terms(given), printer.Terms(atoms), e)
		}
		compared++
	}
	if compared < 400 {
		t.Error(compared)
	}
}

package check_test

import (
	"cmp"
	"math/rand/v2"
	"slices"
	"strings"
	"testing"

	"gameplayer/api"
	"gameplayer/check"
	"gameplayer/parser"
	"gameplayer/printer"
	"gameplayer/term"
	"gameplayer/unify"
)

// violation is an error of a rule: in which atom (len(Body)+1 for the rule as a whole, -1 for what comes before the atoms), and which one.
type violation struct {
	at   int
	rank int
	e    api.Errno
}

// parts are a term and all its parts, with their depths.
func parts(t api.Term, depth int, each func(t api.Term, depth int)) {
	each(t, depth)
	for _, x := range t.Args {
		parts(x, depth+1, each)
	}
}

// kind is the kind of a name as its form shows it.
func kind(s string) string {
	_, number := term.Number(s)
	switch {
	case number:
		return "number"
	case term.Variable(s):
		return "variable"
	case term.Name(s):
		return "name"
	}
	return ""
}

var (
	argsOf   = map[string]int{"role": 1, "init": 1, "true": 1, "does": 2, "legal": 2, "next": 1, "terminal": 0, "goal": 2, "sees": 2, "distinct": 2}
	noHeads  = strings.Fields("true does distinct")
	noBodies = strings.Fields("init legal next terminal goal sees")
)

// violationsOf are the errors of an atom.
func violationsOf(a api.Term, at int) []violation {
	var l []violation
	parts(a, 1, func(t api.Term, depth int) {
		k := kind(t.Name)
		if k == "" || k != "name" && (depth == 1 || len(t.Args) > 0) {
			l = append(l, violation{at, 1, api.ErrName})
		}
		if len(t.Args) > 4 {
			l = append(l, violation{at, 2, api.ErrArity})
		}
		if depth > 4 {
			l = append(l, violation{at, 3, api.ErrDepth})
		}
	})
	if n, ok := argsOf[a.Name]; ok && n != len(a.Args) {
		l = append(l, violation{at, 2, api.ErrArity})
	}
	if at == 0 && slices.Contains(noHeads, a.Name) || at > 0 && slices.Contains(noBodies, a.Name) {
		l = append(l, violation{at, 4, api.ErrKeyword})
	}
	return l
}

// firstError collects all errors of a rule and takes the first one.
func firstError(r api.Rule) api.Errno {
	l := violationsOf(r.Head, 0)
	bound, all := map[string]bool{}, map[string]bool{}
	gather := func(a api.Term, into map[string]bool) {
		parts(a, 1, func(t api.Term, _ int) {
			if len(t.Args) == 0 && kind(t.Name) == "variable" {
				into[t.Name] = true
			}
		})
	}
	gather(r.Head, all)
	for i, x := range r.Body {
		l = append(l, violationsOf(x.Atom, i+1)...)
		gather(x.Atom, all)
		if !x.Not && x.Atom.Name != "distinct" {
			gather(x.Atom, bound)
		}
	}
	end := len(r.Body) + 1
	if len(r.Body) > 8 {
		l = append(l, violation{-1, 0, api.ErrTooLong})
	}
	if len(all) > 5 {
		l = append(l, violation{end, 1, api.ErrTooLarge})
	}
	if len(all) > len(bound) {
		l = append(l, violation{end, 2, api.ErrUnsafe})
	}
	if r.Head.Name == "role" && (len(r.Body) > 0 || len(r.Head.Args) != 1 || len(r.Head.Args[0].Args) > 0 || kind(r.Head.Args[0].Name) != "name") {
		l = append(l, violation{end, 3, api.ErrRole})
	}
	if len(l) == 0 {
		return api.OK
	}
	return slices.MinFunc(l, func(v, w violation) int { return cmp.Or(cmp.Compare(v.at, w.at), cmp.Compare(v.rank, w.rank)) }).e
}

// anyTerm makes a term, with an error now and then; odd is how often.
func anyTerm(r *rand.Rand, depth, odd int) api.Term {
	names := strings.Fields("a b X Y Z f 3")
	if r.IntN(100) < 3*odd {
		names = strings.Fields("U V W U V W U V W U V W if 03 _ X-1 abcdefghijklmnopq")
	}
	t := f(names[r.IntN(len(names))])
	if depth < 4 && r.IntN(3) == 0 {
		if r.IntN(100) >= odd {
			t.Name = "g"
		}
		n := 1 + r.IntN(2)
		if r.IntN(100) < odd {
			n = 5
		}
		for range n {
			t.Args = append(t.Args, anyTerm(r, depth+1-r.IntN(100)/(100-odd), odd))
		}
	}
	return t
}

// anyAtom makes an atom.
func anyAtom(r *rand.Rand, names []string, odd int) api.Term {
	t := f(names[r.IntN(len(names))])
	n, keyword := argsOf[t.Name]
	if !keyword {
		n = len(t.Name) - 1
	}
	if r.IntN(100) < odd {
		n = r.IntN(6)
	}
	for range n {
		t.Args = append(t.Args, anyTerm(r, 2, odd))
	}
	return t
}

// anyRule makes a rule.
func anyRule(r *rand.Rand, odd int) api.Rule {
	heads, bodies := strings.Fields("p q1 r12 init legal next terminal goal sees"), strings.Fields("p q1 r12 q1 r12 true does role distinct")
	if r.IntN(100) < 3*odd {
		heads, bodies = append(heads, append(noHeads, "role", "role", "role", "X", "7", "if")...), append(bodies, append(noBodies, "X", "7", "not")...)
	}
	x := api.Rule{Head: anyAtom(r, heads, odd)}
	n := r.IntN(5)
	if r.IntN(100) < odd {
		n = r.IntN(10)
	}
	for range n {
		x.Body = append(x.Body, api.Literal{Not: r.IntN(4) == 0, Atom: anyAtom(r, bodies, odd)})
	}
	if r.IntN(100) < odd {
		x.Body = append(x.Body, api.Literal{Not: r.IntN(4) == 0, Atom: f("v123", f("U"), f("V"), f("W"), f("g", f("X"), f("Y")))})
	}
	return x
}

// P11.2: comparison with the first of all errors
func TestRuleAgainstAllErrors(t *testing.T) {
	r := rand.New(rand.NewPCG(11, 1))
	counts := map[api.Errno]int{}
	for i := range 120000 {
		x := anyRule(r, i%12)
		got, want := check.Rule(x), firstError(x)
		if got != want {
			t.Fatalf("Rule(%s) is %d, want %d", printer.Rule(x), got, want)
		}
		counts[got]++
	}
	for _, e := range []api.Errno{api.OK, api.ErrTooLong, api.ErrName, api.ErrArity, api.ErrDepth, api.ErrKeyword, api.ErrTooLarge, api.ErrUnsafe, api.ErrRole} {
		if counts[e] < 200 {
			t.Errorf("only %d cases of %d", counts[e], e)
		}
	}
}

// propositional makes a description whose relations have few arguments.
func propositional(r *rand.Rand) []api.Rule {
	choices := strings.Fields("role(x). role(y). role(chance). role(z). role(w). init(a) legal(x,a) goal(x,1) terminal next(a) sees(x,b) p q s t(a)")
	literals := strings.Fields("true(a) does(x,a) role(x) distinct(a,b) p q s t(a) p q s t(a)")
	if r.IntN(5) == 0 {
		choices, literals = append(choices, "t"), append(literals, "s(a)")
	}
	var text []string
	for range 1 + r.IntN(14) {
		head := choices[r.IntN(len(choices))]
		if strings.HasSuffix(head, ".") {
			text = append(text, head)
			continue
		}
		var body []string
		for range r.IntN(3) {
			body = append(body, strings.Repeat("not ", r.IntN(5)/4)+literals[r.IntN(len(literals))])
		}
		if len(body) > 0 {
			head += " if " + strings.Join(body, " and ")
		}
		text = append(text, head+".")
	}
	return read(strings.Join(text, " "))
}

// closure are the pairs of relations of which the first one depends on the second one.
func closure(l []api.Rule) map[[2]string]bool {
	met := map[[2]string]bool{}
	names := map[string]bool{}
	for _, x := range l {
		for _, y := range x.Body {
			met[[2]string{x.Head.Name, y.Atom.Name}] = y.Atom.Name != "distinct"
			names[x.Head.Name], names[y.Atom.Name] = true, true
		}
	}
	for k := range names {
		for i := range names {
			for j := range names {
				if met[[2]string{i, k}] && met[[2]string{k, j}] {
					met[[2]string{i, j}] = true
				}
			}
		}
	}
	return met
}

// expected are the results of Rules for rules that are valid one by one.
func expected(l []api.Rule) (int, api.Errno) {
	count := map[string]int{}
	for i, x := range l {
		list := []api.Term{x.Head}
		for _, y := range x.Body {
			list = append(list, y.Atom)
		}
		for _, a := range list {
			if n, met := count[a.Name]; met && n != len(a.Args) {
				return i, api.ErrArity
			}
			count[a.Name] = len(a.Args)
		}
	}
	roles := map[string]bool{}
	for _, x := range l {
		if x.Head.Name == "role" {
			roles[x.Head.Args[0].Name] = true
		}
	}
	if len(roles) == 0 || len(roles) > 4 || len(roles) == 1 && roles["chance"] {
		return 0, api.ErrRole
	}
	met := closure(l)
	for _, p := range [][2]string{{"init", "true"}, {"init", "does"}, {"legal", "does"}, {"goal", "does"}, {"terminal", "does"}} {
		if met[p] {
			return 0, api.ErrDepends
		}
	}
	for _, x := range l {
		for _, y := range x.Body {
			if y.Not && y.Atom.Name != "distinct" && (y.Atom.Name == x.Head.Name || met[[2]string{y.Atom.Name, x.Head.Name}]) {
				return 0, api.ErrCycle
			}
		}
	}
	return 0, api.OK
}

// P11.3: comparison with the errors by a closure of the dependencies
func TestRulesAgainstClosure(t *testing.T) {
	r := rand.New(rand.NewPCG(11, 3))
	counts := map[api.Errno]int{}
	for range 20000 {
		l := propositional(r)
		at, e := check.Rules(l)
		if wantAt, want := expected(l); at != wantAt || e != want {
			t.Fatalf("Rules(%v) is %d, %d, want %d, %d", l, at, e, wantAt, want)
		}
		counts[e]++
	}
	for _, e := range []api.Errno{api.OK, api.ErrArity, api.ErrRole, api.ErrDepends, api.ErrCycle} {
		if counts[e] < 200 {
			t.Errorf("only %d cases of %d", counts[e], e)
		}
	}
}

// P11.3: the first rule with an error counts, and before all errors of several rules
func TestRulesReportTheFirstRule(t *testing.T) {
	r := rand.New(rand.NewPCG(11, 4))
	for i := range 20000 {
		l := propositional(r)
		first, want := -1, api.OK
		for range r.IntN(3) {
			k := r.IntN(len(l))
			l[k] = anyRule(r, i%12)
		}
		for k := len(l) - 1; k >= 0; k-- {
			if e := firstError(l[k]); e != api.OK {
				first, want = k, e
			}
		}
		if first < 0 {
			first, want = expected(l)
		}
		if at, e := check.Rules(l); at != first || e != want {
			t.Fatalf("Rules(%v) is %d, %d, want %d, %d", l, at, e, first, want)
		}
	}
}

// valid makes valid descriptions.
func valid(r *rand.Rand) []api.Rule {
	for {
		l := append(propositional(r), read("role(x). role(y). g0(X) if q1(X) and not r12(X,a). q1(a).")...)
		for range r.IntN(4) {
			l = append(l, anyRule(r, 0))
		}
		if _, e := check.Rules(l); e == api.OK {
			return l
		}
	}
}

// P11.5
func TestPartsAreValid(t *testing.T) {
	r := rand.New(rand.NewPCG(11, 5))
	for range 2000 {
		l := valid(r)
		for i, x := range l {
			if e := check.Rule(x); e != api.OK {
				t.Fatalf("Rule(%s) is %d", printer.Rule(x), e)
			}
			if x.Head.Name == "role" {
				continue
			}
			part := slices.Delete(slices.Clone(l), i, i+1)
			if at, e := check.Rules(part); at != 0 || e != api.OK {
				t.Fatalf("Rules(%v) is %d, %d", part, at, e)
			}
		}
	}
}

// P11.6
func TestTexts(t *testing.T) {
	r := rand.New(rand.NewPCG(11, 6))
	odd := 0
	for i := range 50000 {
		x := anyRule(r, i%12)
		if !printer.Valid(x) {
			odd++
			if check.Rule(x) == api.OK {
				t.Fatalf("Rule(%s) is valid", printer.Rule(x))
			}
		}
	}
	if odd < 1000 {
		t.Errorf("only %d rules", odd)
	}
	for range 1000 {
		l := valid(r)
		text, e := printer.Rules(l)
		if e != api.OK {
			t.Fatalf("Rules(%v) is %d", l, e)
		}
		again, _, e := parser.Parse(text)
		if e != api.OK {
			t.Fatalf("Parse(%s) is %d", text, e)
		}
		if at, e := check.Rules(again); at != 0 || e != api.OK {
			t.Fatalf("Rules(%s) is %d, %d", text, at, e)
		}
	}
}

// P11.7
func TestRenaming(t *testing.T) {
	r := rand.New(rand.NewPCG(11, 7))
	counts := map[api.Errno]int{}
	for i := range 50000 {
		x := anyRule(r, i%12)
		renamed, ok := unify.Rename(x, "Q")
		if !ok {
			t.Fatal(x)
		}
		vars := strings.Fields("X Y Z U V W")
		r.Shuffle(6, func(i, j int) { vars[i], vars[j] = vars[j], vars[i] })
		var s []api.Binding
		for i, v := range strings.Fields("U V W X Y Z") {
			s = append(s, api.Binding{Var: v, Term: f(vars[i])})
		}
		want := check.Rule(x)
		if got := check.Rule(renamed); got != want {
			t.Fatalf("Rule(%s) is %d, Rule(%s) is %d", printer.Rule(x), want, printer.Rule(renamed), got)
		}
		if got := check.Rule(unify.ApplyRule(s, x)); got != want {
			t.Fatalf("Rule(%s) is %d, with %v %d", printer.Rule(x), want, vars, got)
		}
		counts[want]++
	}
	if len(counts) < 8 {
		t.Error(counts)
	}
}

package parser_test

import (
	"math/rand/v2"
	"slices"
	"strings"
	"testing"

	"gameplayer/api"
	"gameplayer/lexer"
	"gameplayer/parser"
)

// What a machine, which reads tokens by the grammar without recursion, waits for.
const (
	atRule    = iota // a rule, or the end
	atLiteral        // a literal
	atNegated        // the atom after "not"
	atTerm           // an argument, or a term after a comma
	afterName        // what may follow a name: arguments, or what may follow a term
	afterTerm        // what may follow a term
)

type machine struct {
	start  int   // the function whose texts it reads
	place  int   // what it waits for
	open   []int // for each open parenthesis, the number of arguments before the next one
	body   bool
	count  int // of literals
	rules  int
	empty  bool // no term has been read
	accept bool
}

func newMachine(start int) *machine {
	m := &machine{start: start, place: atRule, empty: true}
	if start == oneTerm || start == someTerms {
		m.place = atTerm
	}
	return m
}

// step reads a token and returns its error.
func (m *machine) step(x api.Token) api.Errno {
	switch m.place {
	case atRule:
		return m.atRule(x)
	case atLiteral:
		return m.atLiteral(x)
	case atNegated:
		if x.Kind != api.TokenName {
			return api.ErrSyntax
		}
		m.place = afterName
		return api.OK
	case atTerm:
		return m.atTerm(x)
	case afterName:
		if x.Text == "(" {
			m.open = append(m.open, 0)
			m.place = atTerm
			return api.OK
		}
	}
	if len(m.open) > 0 {
		return m.afterArgument(x)
	}
	return m.afterWhole(x)
}

func (m *machine) atRule(x api.Token) api.Errno {
	single := m.start == oneRule
	switch {
	case x.Kind == api.TokenEnd && (!single || m.rules == 1):
		m.accept = true
	case x.Kind != api.TokenName || single && m.rules == 1:
		return api.ErrSyntax
	case m.rules == api.MaxRules:
		return api.ErrTooLong
	default:
		m.rules++
		m.body, m.count = false, 0
		m.place = afterName
	}
	return api.OK
}

func (m *machine) atLiteral(x api.Token) api.Errno {
	if x.Kind != api.TokenName && x.Text != "not" {
		return api.ErrSyntax
	}
	if m.count == api.MaxBody {
		return api.ErrTooLong
	}
	m.count++
	m.place = afterName
	if x.Text == "not" {
		m.place = atNegated
	}
	return api.OK
}

func (m *machine) atTerm(x api.Token) api.Errno {
	if m.start == someTerms && m.empty && len(m.open) == 0 && x.Kind == api.TokenEnd {
		m.accept = true
		return api.OK
	}
	if x.Kind != api.TokenName && x.Kind != api.TokenNumber && x.Kind != api.TokenVariable {
		return api.ErrSyntax
	}
	if n := len(m.open); n > 0 && m.open[n-1] == api.MaxArgs {
		return api.ErrArity
	} else if n >= api.MaxDepth {
		return api.ErrDepth
	}
	m.empty = false
	m.place = afterTerm
	if x.Kind == api.TokenName {
		m.place = afterName
	}
	return api.OK
}

func (m *machine) afterArgument(x api.Token) api.Errno {
	last := len(m.open) - 1
	switch x.Text {
	case ",":
		m.open[last]++
		m.place = atTerm
	case ")":
		m.open = m.open[:last]
		m.place = afterTerm
	default:
		return api.ErrSyntax
	}
	return api.OK
}

func (m *machine) afterWhole(x api.Token) api.Errno {
	terms := m.start == oneTerm || m.start == someTerms
	switch {
	case terms && x.Kind == api.TokenEnd:
		m.accept = true
	case m.start == someTerms && x.Text == ",":
		m.place = atTerm
	case !terms && x.Text == ".":
		m.place = atRule
	case !terms && !m.body && x.Text == "if":
		m.body = true
		m.place = atLiteral
	case !terms && m.body && x.Text == "and":
		m.place = atLiteral
	default:
		return api.ErrSyntax
	}
	return api.OK
}

// reference returns the first error of a source and its offset, by the definitions.
func reference(start int, source string) (int, api.Errno) {
	tokens, at, err := lexer.Lex(source)
	if err != api.OK {
		return at, err
	}
	m := newMachine(start)
	for _, x := range tokens {
		if err := m.step(x); err != api.OK {
			return x.At, err
		}
	}
	if !m.accept {
		panic("not at the end")
	}
	return 0, api.OK
}

// appendTerm appends the texts of the tokens of a term.
func appendTerm(l []string, t api.Term) []string {
	l = append(l, t.Name)
	for i, a := range t.Args {
		l = append(l, []string{"(", ","}[min(i, 1)])
		l = appendTerm(l, a)
	}
	if len(t.Args) > 0 {
		l = append(l, ")")
	}
	return l
}

// appendRule appends the texts of the tokens of a rule.
func appendRule(l []string, r api.Rule) []string {
	l = appendTerm(l, r.Head)
	for i, x := range r.Body {
		l = append(l, []string{"if", "and"}[min(i, 1)])
		if x.Not {
			l = append(l, "not")
		}
		l = appendTerm(l, x.Atom)
	}
	return append(l, ".")
}

// written returns the texts of the tokens of what a function returns for a source: they determine the rules or terms.
func written(start int, source string) ([]string, int, api.Errno) {
	var l []string
	switch start {
	case parse:
		rules, at, err := parser.Parse(source)
		for _, r := range rules {
			l = appendRule(l, r)
		}
		return l, at, err
	case oneRule:
		r, at, err := parser.Rule(source)
		if err != api.OK {
			return nil, at, err
		}
		return appendRule(l, r), at, err
	case oneTerm:
		t, at, err := parser.Term(source)
		if err != api.OK {
			return nil, at, err
		}
		return appendTerm(l, t), at, err
	}
	terms, at, err := parser.Terms(source)
	for i, t := range terms {
		if i > 0 {
			l = append(l, ",")
		}
		l = appendTerm(l, t)
	}
	return l, at, err
}

// texts returns the texts of the tokens of a source, but for the last, empty one.
func texts(source string) []string {
	tokens, _, _ := lexer.Lex(source)
	var l []string
	for _, x := range tokens[:len(tokens)-1] {
		l = append(l, x.Text)
	}
	return l
}

// compareAll compares the four functions with the reference and returns how many of them accept the source.
func compareAll(t *testing.T, source string) int {
	t.Helper()
	accepted := 0
	for start := range readers {
		wantAt, wantErr := reference(start, source)
		var want []string
		if wantErr == api.OK {
			accepted++
			want = texts(source)
		}
		if got, at, err := written(start, source); !slices.Equal(got, want) || at != wantAt || err != wantErr {
			t.Fatalf("%s(%q) is %q, %d, %d, not %q, %d, %d", readers[start].name, source, got, at, err, want, wantAt, wantErr)
		}
		if n, _, err := readers[start].read(source); err != api.OK && n != 0 {
			t.Fatalf("%s(%q) returns something beside the error %d", readers[start].name, source, err)
		}
	}
	return accepted
}

// short calls a function with all texts of up to n pieces.
func short(n int, pieces []string, call func(string)) {
	call("")
	if n == 0 {
		return
	}
	for _, p := range pieces {
		short(n-1, pieces, func(s string) { call(p + s) })
	}
}

// P5.1, P5.2, P5.3: all texts of few tokens, and all that begin so
func TestAllShortTexts(t *testing.T) {
	pieces := []string{"p ", "X ", "(", ")", ",", ".", "if ", "not ", "and "}
	accepted := 0
	short(5, pieces, func(s string) { accepted += compareAll(t, s) })
	for _, start := range []string{"p if ", "p(X)if q ", "p. q ", "p(", "p(X,", "p(f(X", "p(X,f(X),p,", "p(X,X,X,X", "p(f(f(", "p(f(f(f(", "p if not p(", "p if " + strings.Repeat("q and ", api.MaxBody-1), strings.Repeat("p.", api.MaxRules-1)} {
		short(3, pieces, func(s string) { accepted += compareAll(t, start+s) })
	}
	if accepted < 100 {
		t.Error("too few texts are accepted:", accepted)
	}
}

// P5.1, P5.2, P5.3: longer texts with few or no errors
func TestManyTexts(t *testing.T) {
	r := rand.New(rand.NewPCG(5, 1))
	accepted := 0
	errors := map[api.Errno]int{}
	for range 12000 {
		s := randomText(r)
		accepted += compareAll(t, s)
		_, _, err := parser.Parse(s)
		errors[err]++
	}
	for _, err := range []api.Errno{api.OK, api.ErrSyntax, api.ErrTooLong, api.ErrDepth, api.ErrName, api.ErrArity} {
		if errors[err] < 100 {
			t.Errorf("too few texts with the error %d: %v", err, errors)
		}
	}
	if accepted < 2000 {
		t.Error("too few texts are accepted:", accepted)
	}
}

// randomText is the text of random rules or terms, most of which has an error or two.
func randomText(r *rand.Rand) string {
	limits := bounds{depth: api.MaxDepth, args: api.MaxArgs, body: api.MaxBody}
	switch r.IntN(8) {
	case 0:
		limits.depth++
	case 1:
		limits.args++
	case 2:
		limits.body += 2
	}
	var l []string
	if r.IntN(3) == 0 {
		for range r.IntN(4) {
			l = append(appendTerm(l, randomTerm(r, limits, limits.depth)), ",")
		}
		l = l[:max(len(l)-1, 0)]
	} else {
		n := r.IntN(4)
		if r.IntN(20) == 0 {
			n = api.MaxRules + r.IntN(3)
			limits = bounds{depth: 1, body: 1}
		}
		for range n {
			l = appendRule(l, randomRule(r, limits))
		}
	}
	for range r.IntN(3) {
		l = spoiled(r, l)
	}
	return spaced(r, l)
}

// spoiled removes, repeats, exchanges, replaces or inserts a token.
func spoiled(r *rand.Rand, l []string) []string {
	if len(l) < 2 {
		return l
	}
	i, k := r.IntN(len(l)), r.IntN(len(l))
	token := []string{"(", ")", ",", ".", "if", "and", "not", "a", "X", "7", "007", ";"}[r.IntN(12)]
	switch r.IntN(5) {
	case 0:
		return slices.Delete(l, i, i+1)
	case 1:
		return slices.Insert(l, i, l[i])
	case 2:
		l[i], l[k] = l[k], l[i]
	case 3:
		l[i] = token
	case 4:
		return slices.Insert(l, i, token)
	}
	return l
}

// spaced is a text of the tokens, with blanks and comments between some of them.
func spaced(r *rand.Rand, l []string) string {
	var b strings.Builder
	for i, s := range l {
		needed := i > 0 && !strings.Contains("(),.", s) && !strings.Contains("(),.", l[i-1])
		if needed || r.IntN(6) == 0 {
			b.WriteString([]string{" ", "\n", "\t ", "\r\n", "# c ; p(007)\n"}[r.IntN(5)])
		}
		b.WriteString(s)
	}
	if r.IntN(4) == 0 {
		b.WriteString(" # the end.")
	}
	return b.String()
}

type bounds struct{ depth, args, body int }

func randomRule(r *rand.Rand, limits bounds) api.Rule {
	x := api.Rule{Head: randomAtom(r, limits)}
	for range r.IntN(limits.body + 1) {
		x.Body = append(x.Body, api.Literal{Not: r.IntN(3) == 0, Atom: randomAtom(r, limits)})
	}
	return x
}

func randomAtom(r *rand.Rand, limits bounds) api.Term {
	t := randomTerm(r, limits, limits.depth)
	t.Name = []string{"p", "q", "true", "does", "abcdefghijklmn-0"}[r.IntN(5)]
	return t
}

func randomTerm(r *rand.Rand, limits bounds, depth int) api.Term {
	if depth == 1 || r.IntN(3) > 0 {
		return leaf([]string{"a", "b", "c-1", "X", "Yz", "Abcdefghijklmno1", "0", "12", "9999", "abcdefghijklmnop"}[r.IntN(10)])
	}
	t := leaf([]string{"f", "g", "iff"}[r.IntN(3)])
	for range 1 + r.IntN(limits.args) {
		t.Args = append(t.Args, randomTerm(r, limits, depth-1))
	}
	return t
}

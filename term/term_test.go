package term_test

import (
	"slices"
	"strconv"
	"strings"
	"testing"

	"gameplayer/api"
	"gameplayer/term"
)

func leaf(s string) api.Term { return api.Term{Name: s} }

func fun(name string, args ...api.Term) api.Term { return api.Term{Name: name, Args: args} }

func leaves(names ...string) []api.Term {
	var l []api.Term
	for _, s := range names {
		l = append(l, leaf(s))
	}
	return l
}

// nested returns a term of a depth with one leaf.
func nested(depth int, name string) api.Term {
	t := leaf(name)
	for range depth - 1 {
		t = fun("f", t)
	}
	return t
}

// equal compares terms without the package under test.
func equal(a, b api.Term) bool { return a.Name == b.Name && slices.EqualFunc(a.Args, b.Args, equal) }

func equalLists(a, b []api.Term) bool { return slices.EqualFunc(a, b, equal) }

const (
	lowers = "abcdefghijklmnopqrstuvwxyz"
	uppers = "ABCDEFGHIJKLMNOPQRSTUVWXYZ"
	digits = "0123456789"
)

// P1.1
func TestNameAndVariable(t *testing.T) {
	for _, c := range []struct {
		s              string
		name, variable bool
	}{
		{"", false, false},
		{"a", true, false}, {"z9-", true, false}, {"a-1", true, false}, {"a--", true, false},
		{"A", false, true}, {"Xy", false, true}, {"XY9", false, true}, {"X1y", false, true}, {"X-y", false, false},
		{"a_b", false, false}, {"aB", false, false}, {"-a", false, false}, {"1a", false, false}, {"a b", false, false}, {"_", false, false},
		{"if", false, false}, {"and", false, false}, {"not", false, false},
		{"iff", true, false}, {"i", true, false}, {"ands", true, false}, {"not1", true, false}, {"or", true, false},
		{"If", false, true}, {"AND", false, true}, {"Not", false, true},
		{"distinct", true, false}, {"role", true, false},
		{"abcdefghijklmnop", true, false}, {"abcdefghijklmnopq", false, false},
		{"Abcdefghijklmnop", false, true}, {"Abcdefghijklmnopq", false, false},
		{"\u00e4", false, false}, {"a\u00e4", false, false}, {"X\u00e4", false, false}, {"\u00c4", false, false}, {"a\x00", false, false}, {"X\xff", false, false},
		{strings.Repeat("a", 1<<20), false, false}, {strings.Repeat("A", 1<<20), false, false},
	} {
		if term.Name(c.s) != c.name || term.Variable(c.s) != c.variable {
			t.Errorf("%.40q: Name %v, Variable %v", c.s, term.Name(c.s), term.Variable(c.s))
		}
	}
}

// P1.1: which byte may stand where
func TestBytesOfNames(t *testing.T) {
	for i := range 256 {
		s := string([]byte{byte(i)})
		if term.Name(s) != strings.Contains(lowers, s) || term.Variable(s) != strings.Contains(uppers, s) {
			t.Errorf("first byte %q", s)
		}
		for _, rest := range []string{s, "b" + s, s + "b", strings.Repeat("b", 14) + s} {
			name := strings.Contains(lowers+digits+"-", s)
			variable := strings.Contains(lowers+uppers+digits, s)
			if term.Name("a"+rest) != name || term.Variable("A"+rest) != variable {
				t.Errorf("later byte %q in %q", s, rest)
			}
		}
	}
}

// P1.1
func TestNumber(t *testing.T) {
	for n := range 3 * api.MaxNumber {
		want, ok := n, n <= api.MaxNumber
		if !ok {
			want = 0
		}
		if got, found := term.Number(strconv.Itoa(n)); got != want || found != ok {
			t.Fatal(n, got, found)
		}
		if got, found := term.Number("0" + strconv.Itoa(n)); got != 0 || found {
			t.Fatal("leading zero", n, got, found)
		}
	}
	for _, s := range []string{"", "00", "007", "-0", "-1", "+1", " 1", "1 ", "1.0", "0x1", "1_0", "1e2", "a", "1a", "a1", "1-", "X", "10000", "99999", "4294967297", "18446744073709551617", "\uff11", "\u0661", "1\x00", "/", ":", "1/", "1:", strings.Repeat("0", 1<<20), strings.Repeat("1", 1<<20)} {
		if n, ok := term.Number(s); n != 0 || ok {
			t.Errorf("%.40q: %d %v", s, n, ok)
		}
	}
}

// P1.2
func TestValidAndGround(t *testing.T) {
	a, x := leaf("a"), leaf("X")
	for _, c := range []struct {
		t             api.Term
		valid, ground bool
	}{
		{a, true, true}, {leaf("0"), true, true}, {leaf("9999"), true, true}, {x, true, false},
		{api.Term{}, false, false}, {leaf("10000"), false, false}, {leaf("01"), false, false}, {leaf("a_b"), false, false}, {leaf("not"), false, false}, {leaf("X-y"), false, false}, {leaf("abcdefghijklmnopq"), false, false},
		{api.Term{Name: "a", Args: []api.Term{}}, true, true},
		{api.Term{Name: "X", Args: []api.Term{}}, true, false},
		{fun("f", a), true, true}, {fun("f", a, x), true, false}, {fun("f", x, a), true, false},
		{fun("f", a, a, a, a), true, true}, {fun("f", a, a, a, a, a), false, false},
		{fun("f", a, fun("f", a, a, a, a, a)), false, false},
		{fun("X", a), false, false}, {fun("1", a), false, false}, {fun("if", a), false, false}, {fun("", a), false, false},
		{fun("f", leaf("")), false, false}, {fun("f", a, leaf("A-")), false, false}, {fun("f", a, fun("g", fun("H", a))), false, false},
		{fun("f", fun("X", a)), false, false},
		{nested(4, "a"), true, true}, {nested(4, "X"), true, false}, {nested(5, "a"), false, false}, {nested(5, "X"), false, false},
		{fun("f", a, nested(3, "a")), true, true}, {fun("f", a, nested(4, "a")), false, false}, {fun("f", nested(4, "a"), a), false, false},
	} {
		if term.Valid(c.t) != c.valid || term.Ground(c.t) != c.ground {
			t.Errorf("%.60q: Valid %v, Ground %v", term.Text(c.t), term.Valid(c.t), term.Ground(c.t))
		}
	}
}

// P1.3, also for terms that are not valid
func TestDepthAndSize(t *testing.T) {
	a := leaf("a")
	for _, c := range []struct {
		t           api.Term
		depth, size int
	}{
		{a, 1, 1}, {leaf("X"), 1, 1}, {leaf("12"), 1, 1}, {api.Term{}, 1, 1},
		{api.Term{Name: "a", Args: []api.Term{}}, 1, 1},
		{fun("f", a), 2, 2}, {fun("f", a, a, a, a), 2, 5}, {fun("f", a, a, a, a, a), 2, 6},
		{fun("f", leaf("X"), fun("g", leaf("1"))), 3, 4},
		{fun("f", fun("g", fun("h", a)), a), 4, 5}, {fun("f", a, fun("g", fun("h", a)), fun("g", a)), 4, 7},
		{fun("", fun("X", leaf("a_b"))), 3, 3},
		{nested(9, "a"), 9, 9},
	} {
		if term.Depth(c.t) != c.depth || term.Size(c.t) != c.size {
			t.Error(term.Text(c.t), term.Depth(c.t), term.Size(c.t))
		}
	}
}

// P1.4
func TestVars(t *testing.T) {
	for _, c := range []struct {
		l    []api.Term
		want []string
	}{
		{nil, nil},
		{leaves("a", "1", "", "if", "X-y", "01", "a_b"), nil},
		{leaves("Y", "X", "Y", "Z", "X"), []string{"Y", "X", "Z"}},
		{[]api.Term{fun("f", leaf("Y"), leaf("X")), leaf("Y")}, []string{"Y", "X"}},
		{[]api.Term{fun("f", fun("g", leaf("B"), leaf("A")), leaf("C")), fun("h", leaf("D"), leaf("A"))}, []string{"B", "A", "C", "D"}},
		{[]api.Term{fun("X", leaf("a"), fun("Y", leaf("Z")))}, []string{"Z"}},
		{[]api.Term{{Name: "X", Args: []api.Term{}}}, []string{"X"}},
		{[]api.Term{nested(9, "V")}, []string{"V"}},
		{[]api.Term{fun("f", leaves("A", "B", "C", "D", "E", "A")...)}, []string{"A", "B", "C", "D", "E"}},
	} {
		if got := term.Vars(c.l...); !slices.Equal(got, c.want) {
			t.Error(c.l, got, c.want)
		}
	}
}

// P1.4
func TestConstants(t *testing.T) {
	for _, c := range []struct {
		l    []api.Term
		want []string
	}{
		{nil, nil},
		{leaves("X", "", "if", "and", "not", "01", "10000", "a_b", "X-y", "-1"), nil},
		{[]api.Term{fun("f", leaf("b"), leaf("10"), leaf("X")), leaf("9")}, []string{"9", "10", "b"}},
		{leaves("b", "a", "b", "10", "9", "100", "0", "9", "a-", "a1", "a"), []string{"0", "9", "10", "100", "a", "a-", "a1", "b"}},
		{[]api.Term{fun("f", leaf("a"), fun("g", leaf("a"))), fun("g", leaf("2"))}, []string{"2", "a"}},
		{[]api.Term{fun("1", leaf("X"), fun("c", leaf("Z")))}, nil},
		{[]api.Term{{Name: "a", Args: []api.Term{}}}, []string{"a"}},
		{[]api.Term{nested(9, "a")}, []string{"a"}},
	} {
		if got := term.Constants(c.l...); !slices.Equal(got, c.want) {
			t.Error(c.l, got, c.want)
		}
	}
}

// P1.7
func TestText(t *testing.T) {
	for _, c := range []struct {
		t    api.Term
		want string
	}{
		{leaf("a"), "a"}, {leaf("X"), "X"}, {leaf("10"), "10"}, {leaf(""), ""}, {leaf("a b"), "a b"},
		{api.Term{Name: "a", Args: []api.Term{}}, "a"},
		{fun("f", leaf("a")), "f(a)"}, {fun("f", leaf("X"), fun("g", leaf("1"))), "f(X,g(1))"},
		{fun("f", fun("g", leaf("a"), leaf("b")), leaf("c"), fun("h", leaf("d"))), "f(g(a,b),c,h(d))"},
		{fun("", leaf(""), leaf("")), "(,)"}, {fun("X", leaves("1", "2", "3", "4", "5")...), "X(1,2,3,4,5)"},
		{nested(6, "a"), "f(f(f(f(f(a)))))"},
	} {
		if got := term.Text(c.t); got != c.want {
			t.Errorf("%q, not %q", got, c.want)
		}
	}
}

// P1.9
func TestTextsDiffer(t *testing.T) {
	terms := leaves("a", "b", "f", "ab", "1", "11", "X", "Xa")
	for _, name := range []string{"f", "a"} {
		for _, x := range terms[:8] {
			terms = append(terms, fun(name, x))
			for _, y := range terms[:8] {
				terms = append(terms, fun(name, x, y), fun(name, x, y, leaf("a")))
			}
		}
	}
	for _, x := range terms[:60] {
		for _, y := range terms[:60] {
			terms = append(terms, fun("f", x, y), fun("f", fun("f", x), y), fun("f", fun("f", x, y)))
		}
	}
	byText := map[string]api.Term{}
	for _, x := range terms {
		text := term.Text(x)
		if y, ok := byText[text]; ok && !equal(x, y) {
			t.Errorf("%v and %v have the text %q", x, y, text)
		}
		if !term.Valid(x) {
			t.Error("not valid:", text)
		}
		byText[text] = x
	}
	if len(byText) < 5000 {
		t.Error("too few texts:", len(byText))
	}
}

// R1: terms at the bound of nesting
func TestDeepTerms(t *testing.T) {
	const depth = 1 << 16
	x, y := nested(depth, "X"), nested(depth, "a")
	if term.Valid(x) || term.Ground(y) || term.Depth(x) != depth || term.Size(x) != depth {
		t.Error("kinds and sizes")
	}
	if !slices.Equal(term.Vars(x, y), []string{"X"}) || !slices.Equal(term.Constants(x, y), []string{"a"}) {
		t.Error("leaves")
	}
	if term.Compare(x, y) != 1 || term.Compare(y, x) != -1 || term.Compare(x, x) != 0 {
		t.Error("order")
	}
	l := term.Sort([]api.Term{x, y, x})
	if len(l) != 2 || term.Find(l, y) != 0 || term.Find(l, x) != 1 {
		t.Error("sorting")
	}
	if s := term.Text(y); len(s) != 3*(depth-1)+1 || !strings.HasSuffix(s, "f(f(a"+strings.Repeat(")", depth-1)) {
		t.Error("text")
	}
}

package printer_test

import (
	"slices"
	"strings"
	"testing"

	"gameplayer/api"
	"gameplayer/printer"
)

func leaf(s string) api.Term { return api.Term{Name: s} }

func fun(name string, args ...api.Term) api.Term { return api.Term{Name: name, Args: args} }

func yes(t api.Term) api.Literal { return api.Literal{Atom: t} }

func no(t api.Term) api.Literal { return api.Literal{Not: true, Atom: t} }

func rule(head api.Term, body ...api.Literal) api.Rule { return api.Rule{Head: head, Body: body} }

func equal(a, b api.Term) bool { return a.Name == b.Name && slices.EqualFunc(a.Args, b.Args, equal) }

func equalLiterals(a, b api.Literal) bool { return a.Not == b.Not && equal(a.Atom, b.Atom) }

func equalRules(a, b api.Rule) bool {
	return equal(a.Head, b.Head) && slices.EqualFunc(a.Body, b.Body, equalLiterals)
}

// nested returns a term of a depth with one leaf.
func nested(depth int, name string) api.Term {
	t := leaf(name)
	for range depth - 1 {
		t = fun("f", t)
	}
	return t
}

// alike is a list of n equal elements.
func alike[T any](x T, n int) []T { return slices.Repeat([]T{x}, n) }

// P6.1: of any values
func TestLiteralAndRule(t *testing.T) {
	p, x := fun("p", leaf("X")), leaf("X")
	for _, c := range []struct {
		r    api.Rule
		want string
	}{
		{rule(p), "p(X)."}, {rule(leaf("p")), "p."}, {api.Rule{Head: p, Body: []api.Literal{}}, "p(X)."},
		{rule(p, yes(fun("q", x)), no(leaf("r"))), "p(X) if q(X) and not r."},
		{rule(p, no(fun("q", x))), "p(X) if not q(X)."},
		{rule(leaf("p"), yes(leaf("r")), yes(leaf("q")), yes(leaf("r"))), "p if r and q and r."},
		{rule(fun("p", fun("f", x, leaf("1")), leaf("a")), no(leaf("q")), no(leaf("q"))), "p(f(X,1),a) if not q and not q."},
		{api.Rule{}, "."}, {rule(leaf("a b")), "a b."}, {rule(x, yes(leaf("7"))), "X if 7."},
		{api.Rule{Body: make([]api.Literal, 2)}, " if  and ."}, {rule(leaf("not"), no(leaf("not"))), "not if not not."},
		{rule(leaf("p"), alike(yes(leaf("q")), 10)...), "p if " + strings.Repeat("q and ", 9) + "q."},
		{rule(fun("p", leaf("1"), leaf("2"), leaf("3"), leaf("4"), leaf("5"))), "p(1,2,3,4,5)."}, {rule(nested(5, "a")), "f(f(f(f(a))))."},
		{rule(leaf("\n"), no(leaf("\xff"))), "\n if not \xff."},
	} {
		if got := printer.Rule(c.r); got != c.want {
			t.Errorf("Rule is %q, not %q", got, c.want)
		}
		for _, l := range c.r.Body {
			want := strings.TrimSuffix(printer.Rule(api.Rule{Head: l.Atom}), ".")
			if l.Not {
				want = "not " + want
			}
			if got := printer.Literal(l); got != want {
				t.Errorf("Literal is %q, not %q", got, want)
			}
		}
	}
	for want, l := range map[string]api.Literal{
		"p(X)": yes(p), "not p(X)": no(p), "r": yes(leaf("r")), "not r": no(leaf("r")), "": {}, "not ": no(leaf("")), "not a b": no(leaf("a b")), "X(1)": yes(fun("X", leaf("1"))),
	} {
		if got := printer.Literal(l); got != want {
			t.Errorf("Literal is %q, not %q", got, want)
		}
	}
}

// P6.1: of any values
func TestTerms(t *testing.T) {
	for _, c := range []struct {
		l    []api.Term
		want string
	}{
		{nil, ""}, {[]api.Term{}, ""},
		{[]api.Term{leaf("a"), leaf("3"), fun("f", leaf("X"))}, "a, 3, f(X)"},
		{[]api.Term{fun("f", leaf("a"), leaf("b"))}, "f(a,b)"},
		{[]api.Term{leaf("b"), leaf("a"), leaf("b")}, "b, a, b"},
		{[]api.Term{{}, leaf("a b"), {}}, ", a b, "}, {[]api.Term{{}}, ""}, {[]api.Term{leaf("if"), nested(5, "X")}, "if, f(f(f(f(X))))"},
		{alike(leaf("a"), api.MaxText), strings.Repeat("a, ", api.MaxText-1) + "a"},
	} {
		if got := printer.Terms(c.l); got != c.want {
			t.Errorf("Terms is %.60q, not %.60q", got, c.want)
		}
	}
}

// printable and unprintable are rules of both kinds.
func printable() []api.Rule {
	a, x := leaf("a"), leaf("X")
	full := fun("f", a, x, leaf("0"), leaf("9999"))
	return []api.Rule{
		rule(leaf("p")), rule(a, yes(a), no(a)), rule(api.Term{Name: "p", Args: []api.Term{}}), rule(fun("p", x)), rule(fun("p", api.Term{Name: "X", Args: []api.Term{}})),
		rule(leaf("abcdefghijklmn-9")), rule(leaf("if-1"), yes(leaf("nota"))), rule(fun("p", leaf("Abcdefghijklmn09"))),
		rule(fun("p", full, full, full, fun("f", full)), no(full)), rule(nested(4, "a"), yes(nested(4, "X"))),
		rule(leaf("p"), alike(no(leaf("q")), api.MaxBody)...), rule(fun("next", x), yes(fun("distinct", x, x))), rule(fun("role", a, a, a)),
	}
}

func unprintable() []api.Rule {
	a, p := leaf("a"), leaf("p")
	var l []api.Rule
	for _, t := range []api.Term{
		{}, leaf("X"), leaf("7"), leaf("if"), leaf("and"), leaf("not"), leaf("a b"), leaf("a_b"), leaf("p(a)"), leaf("p."), leaf("p\n"), leaf(" p"), leaf("p#"), leaf("p if q"), leaf("not p"), leaf("p. q"), leaf("-p"), leaf("abcdefghijklmnopq"), leaf("p\u00e4"),
		fun("X", a), fun("7", a), fun("if", a), fun("", a), fun("p", leaf("")), fun("p", leaf("10000")), fun("p", leaf("01")), fun("p", leaf("X-y")), fun("p", leaf("not")), fun("p", leaf("a,b")), fun("p", leaf("f(a)")), fun("p", leaf("Abcdefghijklmnopq")),
		fun("p", a, a, a, a, a), fun("p", fun("f", a, a, a, a, a)), fun("p", fun("X", a)), fun("p", a, fun("7", a)), fun("p", fun("f", fun("f", a), leaf("_"))), nested(5, "a"), nested(5, "X"), fun("p", a, nested(4, "a")),
	} {
		l = append(l, rule(t), rule(p, yes(t)), rule(p, no(t)), rule(p, yes(a), no(a), yes(t)), rule(t, yes(a)))
	}
	return append(l, rule(p, alike(yes(a), api.MaxBody+1)...), rule(p, alike(no(a), 100)...), api.Rule{Head: p, Body: make([]api.Literal, 1)})
}

// P6.2
func TestValid(t *testing.T) {
	for _, r := range printable() {
		if !printer.Valid(r) {
			t.Errorf("not valid: %q", printer.Rule(r))
		}
	}
	for _, r := range unprintable() {
		if printer.Valid(r) {
			t.Errorf("valid: %q", printer.Rule(r))
		}
	}
}

// P6.3
func TestRules(t *testing.T) {
	p, q := fun("p", leaf("X")), fun("q", leaf("X"))
	for _, c := range []struct {
		l    []api.Rule
		want string
	}{
		{nil, ""}, {[]api.Rule{}, ""}, {[]api.Rule{rule(p)}, "p(X).\n"},
		{[]api.Rule{rule(p, yes(q), no(leaf("r"))), rule(leaf("q"))}, "p(X) if q(X) and not r.\nq.\n"},
		{[]api.Rule{rule(leaf("b")), rule(leaf("a")), rule(leaf("b"))}, "b.\na.\nb.\n"},
		{alike(rule(leaf("p")), api.MaxRules), strings.Repeat("p.\n", api.MaxRules)},
	} {
		if got, err := printer.Rules(c.l); got != c.want || err != api.OK {
			t.Errorf("Rules is %.60q, %d, not %.60q", got, err, c.want)
		}
	}
}

// line is a rule whose text has so many bytes with the line feed: from 26 up to 176.
func line(bytes int) api.Rule {
	const name = "abcdefghijklmnop"
	r := rule(fun("p", alike(leaf("a"), 4)...), yes(fun("q", alike(leaf("a"), 4)...)))
	places := []*string{&r.Head.Name, &r.Body[0].Atom.Name}
	for i := range 4 {
		places = append(places, &r.Head.Args[i].Name, &r.Body[0].Atom.Args[i].Name)
	}
	more := bytes - len(printer.Rule(r)) - 1
	for _, p := range places {
		n := min(more, len(name)-1)
		*p = name[:n+1]
		more -= n
	}
	return r
}

// with appends rules to a copy of a list.
func with(l []api.Rule, more ...api.Rule) []api.Rule { return slices.Concat(l, more) }

// P6.3: the errors in their order
func TestErrorsOfRules(t *testing.T) {
	good, bad := rule(leaf("p")), rule(leaf("X"))
	many := alike(line(160), 102) // 64 bytes less than MaxText
	for _, c := range []struct {
		l   []api.Rule
		err api.Errno
	}{
		{[]api.Rule{bad}, api.ErrInvalid}, {[]api.Rule{good, good, bad}, api.ErrInvalid}, {[]api.Rule{bad, good}, api.ErrInvalid}, {[]api.Rule{{}}, api.ErrInvalid},
		{with(alike(good, api.MaxRules-1), bad), api.ErrInvalid}, {alike(bad, api.MaxRules), api.ErrInvalid},
		{alike(good, api.MaxRules+1), api.ErrTooLong}, {alike(bad, api.MaxRules+1), api.ErrTooLong}, {with(alike(good, api.MaxRules), bad), api.ErrTooLong}, {alike(line(176), api.MaxRules+1), api.ErrTooLong},
		{alike(line(128), 128), api.OK}, {with(alike(line(128), 127), line(129)), api.ErrTooLong}, {alike(line(176), 128), api.ErrTooLong},
		{with(many, line(64)), api.OK}, {with(many, line(65)), api.ErrTooLong}, {with(many, good, line(61)), api.OK}, {with(many, good, line(62)), api.ErrTooLong},
		{with(many, line(65), bad), api.ErrInvalid}, {with([]api.Rule{bad}, with(many, line(65))...), api.ErrInvalid}, {with(many, bad), api.ErrInvalid},
	} {
		var want strings.Builder
		for _, r := range c.l {
			want.WriteString(printer.Rule(r) + "\n")
		}
		if c.err != api.OK {
			want.Reset()
		}
		if got, err := printer.Rules(c.l); got != want.String() || err != c.err {
			t.Errorf("Rules of %d rules is %.60q with %d bytes, %d, not %d", len(c.l), got, len(got), err, c.err)
		}
	}
	for _, r := range unprintable() {
		if got, err := printer.Rules([]api.Rule{good, r, good}); got != "" || err != api.ErrInvalid {
			t.Errorf("Rules is %q, %d", got, err)
		}
	}
	if text, _ := printer.Rules(with(many, line(64))); len(text) != api.MaxText {
		t.Error("the longest text has", len(text), "bytes")
	}
}

// P6.4
func TestFormat(t *testing.T) {
	p := strings.Repeat("p. ", api.MaxRules)
	for _, c := range []struct {
		source, want string
		at           int
		err          api.Errno
	}{
		{"", "", 0, api.OK}, {" # c", "", 0, api.OK}, {"p ( X )if\nq(X) . # c", "p(X) if q(X).\n", 0, api.OK},
		{"b.a.\n\nb if a and#\nnot c( 1 , f (X) ).", "b.\na.\nb if a and not c(1,f(X)).\n", 0, api.OK},
		{"p(X)if q(X)and not r(X).q(a).", "p(X) if q(X) and not r(X).\nq(a).\n", 0, api.OK},
		{p, strings.Repeat("p.\n", api.MaxRules), 0, api.OK}, {p + "p. ", "", 384, api.ErrTooLong},
		{"p", "", 1, api.ErrSyntax}, {"p. X.", "", 3, api.ErrSyntax}, {"p. 007", "", 3, api.ErrName}, {"p. q ;", "", 5, api.ErrSyntax}, {"p(a,b,c,d,e).", "", 10, api.ErrArity}, {"f(f(f(f(a)))).", "", 8, api.ErrDepth},
		{"p if " + strings.Repeat("q and ", 8) + "q.", "", 53, api.ErrTooLong}, {strings.Repeat(" ", api.MaxText+1), "", 0, api.ErrTooLong},
	} {
		if got, at, err := printer.Format(c.source); got != c.want || at != c.at || err != c.err {
			t.Errorf("Format(%.60q) is %.60q, %d, %d", c.source, got, at, err)
		}
	}
}

// P6.4: sources within MaxText whose canonical text is as long as permitted, and longer
func TestFormatOfTightSources(t *testing.T) {
	for bytes, want := range map[int]api.Errno{63: api.OK, 64: api.OK, 65: api.ErrTooLong, 160: api.ErrTooLong} {
		var source, text strings.Builder
		for _, r := range with(alike(line(160), 102), line(bytes)) {
			source.WriteString(strings.Replace(printer.Rule(r), ") if", ")if", 1))
			text.WriteString(printer.Rule(r) + "\n")
		}
		if source.Len() > api.MaxText || text.Len() != api.MaxText-64+bytes {
			t.Fatal("the source does not suit the limits:", source.Len(), text.Len())
		}
		if want != api.OK {
			text.Reset()
		}
		if got, at, err := printer.Format(source.String()); got != text.String() || at != 0 || err != want {
			t.Error(bytes, len(got), at, err)
		}
	}
}

// R1: terms at the bound of nesting
func TestDeepTerms(t *testing.T) {
	const depth = 1 << 16
	deep := nested(depth, "a")
	text := strings.Repeat("f(", depth-1) + "a" + strings.Repeat(")", depth-1)
	r := rule(deep, no(deep))
	if printer.Literal(no(deep)) != "not "+text || printer.Rule(r) != text+" if not "+text+"." || printer.Terms([]api.Term{deep, deep}) != text+", "+text {
		t.Error("texts")
	}
	if got, err := printer.Rules([]api.Rule{r}); printer.Valid(r) || got != "" || err != api.ErrInvalid {
		t.Error("deep terms are printable")
	}
}

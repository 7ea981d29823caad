package lexer_test

import (
	"math/rand/v2"
	"regexp"
	"slices"
	"strconv"
	"strings"
	"testing"

	"gameplayer/api"
	"gameplayer/lexer"
)

var (
	gap  = regexp.MustCompile("^(?:[ \t\n\r]|#[^\n]*)+")
	mark = regexp.MustCompile("^[(),.]")
	run  = regexp.MustCompile("^[a-zA-Z0-9-]+")
	kind = map[int]*regexp.Regexp{
		name:     regexp.MustCompile("^[a-z][a-z0-9-]{0,15}$"),
		variable: regexp.MustCompile("^[A-Z][a-zA-Z0-9]{0,15}$"),
		number:   regexp.MustCompile("^(?:0|[1-9][0-9]{0,3})$"),
		word:     regexp.MustCompile("^(?:if|and|not)$"),
	}
)

// reference reads a source of permitted length by the definitions, without the package under test.
func reference(source string) ([]api.Token, int, api.Errno) {
	var l []api.Token
	for at := 0; at < len(source); {
		rest := source[at:]
		if s := gap.FindString(rest); s != "" {
			at += len(s)
			continue
		}
		if s := mark.FindString(rest); s != "" {
			l = append(l, token(symbol, s, at))
			at += len(s)
			continue
		}
		s := run.FindString(rest)
		if s == "" {
			return nil, at, api.ErrSyntax
		}
		k := end
		for _, candidate := range []int{name, variable, number, word} { // word is last, since names have its form, too
			if kind[candidate].MatchString(s) {
				k = candidate
			}
		}
		if k == end {
			return nil, at, api.ErrName
		}
		l = append(l, token(k, s, at))
		at += len(s)
	}
	return append(l, token(end, "", len(source))), 0, api.OK
}

// short calls a function with all texts of up to n pieces.
func short(n int, pieces []string, call func(string)) {
	call("")
	if n == 0 {
		return
	}
	for _, p := range pieces {
		short(n-1, pieces, func(s string) { call(p + s) })
	}
}

// sources are many texts, with few errors among them.
func sources() []string {
	pieces := []string{"if", "and", "not", "p", "cell", "X", "Abc", "0", "12", "9999", "x-1", longName, longVariable, "(", ")", ",", ".", " ", " ", "\n", "\t", "\r", "# c ; 007\n", "#\n", "if-", "(X,", ") ", ". "}
	bad := []string{";", "007", "\u00e4", "-", "10000", "aB", "_"}
	r := rand.New(rand.NewPCG(1, 2))
	var l []string
	for range 3000 {
		var b strings.Builder
		for range r.IntN(40) {
			if r.IntN(150) == 0 {
				b.WriteString(bad[r.IntN(len(bad))])
			} else {
				b.WriteString(pieces[r.IntN(len(pieces))])
			}
		}
		l = append(l, b.String())
	}
	half := api.MaxText / 2
	return append(l, "", "a", "a#b", "#", "a # b", strings.Repeat(".", half), strings.Repeat("a,", half/2), strings.Repeat("a ", half/2), strings.Repeat("X\n", half/2), strings.Repeat("#\n", half/2))
}

// P4.1: all texts of few pieces
func TestShortTexts(t *testing.T) {
	short(5, []string{"a", "if", "A", "1", "0", "-", ".", " ", "\n", "#", ";"}, func(s string) {
		want, wantAt, wantErr := reference(s)
		if got, at, err := lexer.Lex(s); !slices.Equal(got, want) || at != wantAt || err != wantErr {
			t.Fatalf("Lex(%q) is %v, %d, %d, not %v, %d, %d", s, got, at, err, want, wantAt, wantErr)
		}
	})
}

// P4.1: longer texts
func TestLongTexts(t *testing.T) {
	right := 0
	for _, s := range sources() {
		want, wantAt, wantErr := reference(s)
		if got, at, err := lexer.Lex(s); !slices.Equal(got, want) || at != wantAt || err != wantErr {
			t.Fatalf("Lex(%q) is %v, %d, %d, not %v, %d, %d", s, got, at, err, want, wantAt, wantErr)
		}
		if wantErr == api.OK {
			right++
		}
	}
	if right < 500 {
		t.Error("too few texts without errors:", right)
	}
}

// P4.1: all numbers, and what looks like them
func TestRunsOfDigits(t *testing.T) {
	for n := range 3 * api.MaxNumber {
		s := strconv.Itoa(n)
		l, _, err := lexer.Lex(s)
		if n > api.MaxNumber {
			if err != api.ErrName {
				t.Fatal(s, l, err)
			}
		} else if err != api.OK || l[0] != token(number, s, 0) {
			t.Fatal(s, l, err)
		}
		if l, at, err := lexer.Lex(" 0" + s); len(l) != 0 || at != 1 || err != api.ErrName {
			t.Fatal("leading zero", s, l, at, err)
		}
	}
}

// P4.5
func TestBack(t *testing.T) {
	for _, s := range sources() {
		l, _, err := lexer.Lex(s)
		if err != api.OK || len(s) > api.MaxText/2 {
			continue
		}
		back, at, err := lexer.Lex(lexer.Join(l))
		same := slices.EqualFunc(l, back, func(a, b api.Token) bool { return a.Kind == b.Kind && a.Text == b.Text })
		if !same || at != 0 || err != api.OK {
			t.Fatalf("%.200q: %.300v, %d, %d", s, back, at, err)
		}
	}
}

// P4.6
func TestCover(t *testing.T) {
	for _, s := range sources() {
		l, _, err := lexer.Lex(s)
		if err != api.OK {
			continue
		}
		last := 0
		for i, x := range l {
			if x.At < last || !strings.HasPrefix(s[x.At:], x.Text) || gap.FindString(s[last:]) != s[last:x.At] {
				t.Fatalf("%.200q: token %d, %v", s, i, x)
			}
			if (x.Kind == end) != (i == len(l)-1) || (x.Text == "") != (x.Kind == end) {
				t.Fatalf("%.200q: token %d of %d, %v", s, i, len(l), x)
			}
			last = x.At + len(x.Text)
		}
		if last != len(s) {
			t.Fatalf("%.200q: the end is at %d", s, last)
		}
	}
}

// P4.7
func TestLines(t *testing.T) {
	all := sources()
	for i, first := range all {
		second := all[len(all)-1-i]
		if i%7 == 0 {
			first += "# open"
		}
		a, _, errA := lexer.Lex(first)
		b, _, errB := lexer.Lex(second)
		if errA != api.OK || errB != api.OK || len(first)+len(second) >= api.MaxText {
			continue
		}
		want := a[:len(a)-1]
		for _, x := range b {
			x.At += len(first) + 1
			want = append(want, x)
		}
		if got, at, err := lexer.Lex(first + "\n" + second); !slices.Equal(got, want) || at != 0 || err != api.OK {
			t.Fatalf("%.200q and %.200q: %.300v, %d, %d", first, second, got, at, err)
		}
	}
}

// P4.7: texts that together have one byte less than MaxText
func TestLinesAtTheLimit(t *testing.T) {
	first := strings.Repeat("a ", api.MaxText/4)
	second := strings.Repeat("X.", api.MaxText/4-1) + "1"
	got, at, err := lexer.Lex(first + "\n" + second)
	if len(first)+len(second) != api.MaxText-1 || at != 0 || err != api.OK || len(got) != 3*api.MaxText/4 {
		t.Error(len(got), at, err)
	}
}

// R5: a result is new memory
func TestLexGivesNewMemory(t *testing.T) {
	const source = "p(X) if q."
	a, _, _ := lexer.Lex(source)
	want := slices.Clone(a)
	b, _, _ := lexer.Lex(source)
	clear(b[:cap(b)])
	if !slices.Equal(a, want) {
		t.Error("two results share memory:", a)
	}
}

package lexer_test

import (
	"slices"
	"strings"
	"testing"

	"gameplayer/api"
	"gameplayer/lexer"
)

const (
	end      = api.TokenEnd
	name     = api.TokenName
	number   = api.TokenNumber
	variable = api.TokenVariable
	symbol   = api.TokenSymbol
	word     = api.TokenWord
)

func token(kind int, text string, at int) api.Token { return api.Token{Kind: kind, Text: text, At: at} }

// long names: of MaxName bytes and of one more
const (
	longName     = "abcdefghijklmn-9"
	longVariable = "Abcdefghijklmn09"
)

// P4.1: texts without errors
func TestLex(t *testing.T) {
	for _, c := range []struct {
		source string
		want   []api.Token
	}{
		{"", []api.Token{token(end, "", 0)}},
		{" \t\n\r", []api.Token{token(end, "", 4)}},
		{"p(X,1). # c", []api.Token{token(name, "p", 0), token(symbol, "(", 1), token(variable, "X", 2), token(symbol, ",", 3), token(number, "1", 4), token(symbol, ")", 5), token(symbol, ".", 6), token(end, "", 11)}},
		{"if-x if", []api.Token{token(name, "if-x", 0), token(word, "if", 5), token(end, "", 7)}},
		{"if and not", []api.Token{token(word, "if", 0), token(word, "and", 3), token(word, "not", 7), token(end, "", 10)}},
		{"If AND nota an ifif", []api.Token{token(variable, "If", 0), token(variable, "AND", 3), token(name, "nota", 7), token(name, "an", 12), token(name, "ifif", 15), token(end, "", 19)}},
		{"if(not)and.", []api.Token{token(word, "if", 0), token(symbol, "(", 2), token(word, "not", 3), token(symbol, ")", 6), token(word, "and", 7), token(symbol, ".", 10), token(end, "", 11)}},
		{"\ta\r\nB\n 0 ", []api.Token{token(name, "a", 1), token(variable, "B", 4), token(number, "0", 7), token(end, "", 9)}},
		{"0 9999 10", []api.Token{token(number, "0", 0), token(number, "9999", 2), token(number, "10", 7), token(end, "", 9)}},
		{"..((,,))", []api.Token{token(symbol, ".", 0), token(symbol, ".", 1), token(symbol, "(", 2), token(symbol, "(", 3), token(symbol, ",", 4), token(symbol, ",", 5), token(symbol, ")", 6), token(symbol, ")", 7), token(end, "", 8)}},
		{longName, []api.Token{token(name, longName, 0), token(end, "", 16)}},
		{longVariable, []api.Token{token(variable, longVariable, 0), token(end, "", 16)}},
		{"if- a- x-1- X1y2", []api.Token{token(name, "if-", 0), token(name, "a-", 4), token(name, "x-1-", 7), token(variable, "X1y2", 12), token(end, "", 16)}},
		{"1.2", []api.Token{token(number, "1", 0), token(symbol, ".", 1), token(number, "2", 2), token(end, "", 3)}},
	} {
		if got, at, err := lexer.Lex(c.source); !slices.Equal(got, c.want) || at != 0 || err != api.OK {
			t.Errorf("Lex(%q) is %v, %d, %d", c.source, got, at, err)
		}
	}
}

// P4.1: comments extend up to the line feed or the end, and may contain any bytes
func TestComments(t *testing.T) {
	for _, c := range []struct {
		source string
		want   []api.Token
	}{
		{"#", []api.Token{token(end, "", 1)}},
		{"#\n", []api.Token{token(end, "", 2)}},
		{"##a\n#b", []api.Token{token(end, "", 6)}},
		{"a#b", []api.Token{token(name, "a", 0), token(end, "", 3)}},
		{"a#b\nc", []api.Token{token(name, "a", 0), token(name, "c", 4), token(end, "", 5)}},
		{"a#\nb", []api.Token{token(name, "a", 0), token(name, "b", 3), token(end, "", 4)}},
		{"# 007 ; A-b \x00\xff\u00e4\n7", []api.Token{token(number, "7", 17), token(end, "", 18)}},
		{"a # b\rc\nd", []api.Token{token(name, "a", 0), token(name, "d", 8), token(end, "", 9)}},
		{"#a\n#b\nc", []api.Token{token(name, "c", 6), token(end, "", 7)}},
		{".#.", []api.Token{token(symbol, ".", 0), token(end, "", 3)}},
	} {
		if got, at, err := lexer.Lex(c.source); !slices.Equal(got, c.want) || at != 0 || err != api.OK {
			t.Errorf("Lex(%q) is %v, %d, %d", c.source, got, at, err)
		}
	}
}

// P4.1: the error further left is the one that is returned
func TestErrors(t *testing.T) {
	for _, c := range []struct {
		source string
		at     int
		err    api.Errno
	}{
		{"a 007 ;", 2, api.ErrName}, {"a ; 007", 2, api.ErrSyntax}, {"007;", 0, api.ErrName}, {";007", 0, api.ErrSyntax},
		{"007", 0, api.ErrName}, {"00", 0, api.ErrName}, {"10000", 0, api.ErrName}, {"99999999999999999999", 0, api.ErrName},
		{"A-b", 0, api.ErrName}, {"-", 0, api.ErrName}, {" -", 1, api.ErrName}, {"-1", 0, api.ErrName}, {"-a", 0, api.ErrName}, {"1-", 0, api.ErrName},
		{"1a", 0, api.ErrName}, {"1A", 0, api.ErrName}, {"aB", 0, api.ErrName}, {"a-B", 0, api.ErrName}, {"A-", 0, api.ErrName},
		{longName + "x", 0, api.ErrName}, {"p(" + longName + "x)", 2, api.ErrName}, {longVariable + "x", 0, api.ErrName}, {"p(10000)", 2, api.ErrName},
		{"p(X) if\n q(Y-1).", 11, api.ErrName},
		{"a_b", 1, api.ErrSyntax}, {"a_007", 1, api.ErrSyntax}, {"007_", 0, api.ErrName}, {"p(a;b)", 3, api.ErrSyntax},
		{"a\u00e4", 1, api.ErrSyntax}, {"# \u00e4\n\u00e4", 5, api.ErrSyntax}, {"\xff", 0, api.ErrSyntax}, {"a\x00", 1, api.ErrSyntax}, {"a\vb", 1, api.ErrSyntax}, {"a\fb", 1, api.ErrSyntax}, {"a\u00a0b", 1, api.ErrSyntax},
		{"p :- q.", 2, api.ErrSyntax}, {"\"a\"", 0, api.ErrSyntax}, {"[a]", 0, api.ErrSyntax}, {"a.\n\n!", 4, api.ErrSyntax},
	} {
		got, at, err := lexer.Lex(c.source)
		if len(got) != 0 || at != c.at || err != c.err {
			t.Errorf("Lex(%q) is %v, %d, %d, not %d, %d", c.source, got, at, err, c.at, c.err)
		}
	}
}

// P4.1: every byte alone, after a name, and within a comment
func TestBytes(t *testing.T) {
	const letters = "abcdefghijklmnopqrstuvwxyzABCDEFGHIJKLMNOPQRSTUVWXYZ0123456789"
	for i := range 256 {
		s := string([]byte{byte(i)})
		want := []api.Token{token(end, "", 1)}
		err := api.OK
		switch {
		case strings.Contains(letters[:26], s):
			want = []api.Token{token(name, s, 0), want[0]}
		case strings.Contains(letters[26:52], s):
			want = []api.Token{token(variable, s, 0), want[0]}
		case strings.Contains(letters[52:], s):
			want = []api.Token{token(number, s, 0), want[0]}
		case strings.Contains("(),.", s):
			want = []api.Token{token(symbol, s, 0), want[0]}
		case s == "-":
			want, err = nil, api.ErrName
		case !strings.Contains(" \t\n\r#", s):
			want, err = nil, api.ErrSyntax
		}
		if got, at, e := lexer.Lex(s); !slices.Equal(got, want) || at != 0 || e != err {
			t.Errorf("Lex(%q) is %v, %d, %d", s, got, at, e)
		}
		if _, at, e := lexer.Lex("a " + s); e != err || err != api.OK && at != 2 {
			t.Errorf("Lex(%q) returns %d, %d", "a "+s, at, e)
		}
		if got, _, e := lexer.Lex("#" + s + "."); e != api.OK || (len(got) > 1) != (s == "\n") {
			t.Errorf("Lex(%q) is %v, %d", "#"+s+".", got, e)
		}
	}
}

// P4.1: the length of the text
func TestLength(t *testing.T) {
	const top = api.MaxText
	for _, s := range []string{" ", "#", "\n", "a ", ".", "a,"} {
		source := strings.Repeat(s, top/len(s))
		got, at, err := lexer.Lex(source)
		if len(got) == 0 || got[len(got)-1] != token(end, "", top) || at != 0 || err != api.OK {
			t.Errorf("Lex of %q, repeated, is %.60v, %d, %d", s, got, at, err)
		}
		if got, at, err := lexer.Lex(source + s[:1]); len(got) != 0 || at != 0 || err != api.ErrTooLong {
			t.Errorf("Lex of %q, repeated once more, is %.60v, %d, %d", s, got, at, err)
		}
	}
	for _, s := range []string{strings.Repeat(";", top+1), "007" + strings.Repeat(" ", top), strings.Repeat("a", 1<<22)} {
		if got, at, err := lexer.Lex(s); len(got) != 0 || at != 0 || err != api.ErrTooLong {
			t.Errorf("Lex(%.20q) is %.60v, %d, %d", s, got, at, err)
		}
	}
	blanks := strings.Repeat(" ", top-1)
	if got, at, err := lexer.Lex(blanks + ";"); len(got) != 0 || at != top-1 || err != api.ErrSyntax {
		t.Error("an error at the end:", got, at, err)
	}
	if got, at, err := lexer.Lex(strings.Repeat("a", top)); len(got) != 0 || at != 0 || err != api.ErrName {
		t.Error("one long run:", got, at, err)
	}
}

// P4.2
func TestWord(t *testing.T) {
	for _, s := range []string{"if", "and", "not"} {
		if !lexer.Word(s) {
			t.Errorf("%q", s)
		}
	}
	for _, s := range []string{"", "i", "f", "If", "IF", "iff", "if ", " if", "an", "ands", "And", "no", "nota", "NOT", "or", "true", "distinct", "if and", "if\x00", "notand", strings.Repeat("if", 1000)} {
		if lexer.Word(s) {
			t.Errorf("%q", s)
		}
	}
}

// P4.3: of any tokens, whatever their texts
func TestJoin(t *testing.T) {
	for _, c := range []struct {
		l    []api.Token
		want string
	}{
		{nil, ""},
		{[]api.Token{token(end, "", 0)}, ""},
		{[]api.Token{token(end, "a", 0)}, ""},
		{[]api.Token{token(name, "a", 9)}, "a"},
		{[]api.Token{token(name, "p", 0), token(symbol, "(", 1), token(variable, "X", 2), token(symbol, ")", 3), token(symbol, ".", 4), token(end, "", 5)}, "p ( X ) ."},
		{[]api.Token{token(end, "x", 3), token(word, "if", 2), token(end, "y", 1), token(number, "007", 0), token(end, "", 0)}, "if 007"},
		{[]api.Token{token(name, "", 0), token(name, "", 0), token(end, "", 0), token(name, "", 0)}, "  "},
		{[]api.Token{token(99, "a b", -1), token(-1, "\xff", -1)}, "a b \xff"},
	} {
		l := slices.Clone(c.l)
		if got := lexer.Join(l); got != c.want || !slices.Equal(l, c.l) {
			t.Errorf("Join(%v) is %q", c.l, got)
		}
	}
}

// P4.4
func TestPosition(t *testing.T) {
	for _, c := range []struct {
		source           string
		at, line, column int
	}{
		{"ab\nc", 0, 1, 1}, {"ab\nc", 1, 1, 2}, {"ab\nc", 2, 1, 3}, {"ab\nc", 3, 2, 1}, {"ab\nc", 4, 2, 2}, {"ab\nc", 5, 0, 0},
		{"ab\nc", -1, 0, 0}, {"ab\nc", -1 << 63, 0, 0}, {"ab\nc", 1<<63 - 1, 0, 0},
		{"", 0, 1, 1}, {"", 1, 0, 0}, {"", -1, 0, 0},
		{"\n", 0, 1, 1}, {"\n", 1, 2, 1}, {"\n\n", 1, 2, 1}, {"\n\n", 2, 3, 1}, {"\n\nx", 3, 3, 2},
		{"a\r\nb", 2, 1, 3}, {"a\r\nb", 3, 2, 1}, {"a\rb", 2, 1, 3}, {"\u00e4\t;", 3, 1, 4}, {"#;\n\x00", 4, 2, 2},
	} {
		if line, column := lexer.Position(c.source, c.at); line != c.line || column != c.column {
			t.Errorf("Position(%q, %d) is %d, %d, not %d, %d", c.source, c.at, line, column, c.line, c.column)
		}
	}
}

// P4.4: all offsets of a source longer than MaxText, counted byte by byte
func TestPositionInLongSources(t *testing.T) {
	source := strings.Repeat("a\n\nbc# ;\n", 2*api.MaxText/10+1)
	line, column := 1, 1
	for at := range len(source) + 1 {
		if l, c := lexer.Position(source, at); l != line || c != column {
			t.Fatalf("Position of %d is %d, %d, not %d, %d", at, l, c, line, column)
		}
		column++
		if at < len(source) && source[at] == '\n' {
			line, column = line+1, 1
		}
	}
}

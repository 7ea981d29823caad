package model_test

import (
	"slices"
	"strings"
	"testing"

	"gameplayer/api"
	"gameplayer/ground"
	"gameplayer/model"
	"gameplayer/parser"
	"gameplayer/term"
)

// switches is a game of two lamps, of which each move switches one; a third move is legal when both are on.
const switches = `role(x). lamp(a). lamp(b).
init(off(a)). init(off(b)). init(time(0)). after(0,1). after(1,2). after(2,3).
on(L) if lamp(L) and true(on(L)).
dark if lamp(L) and not on(L).
legal(x,switch(L)) if lamp(L) and not late.
legal(x,shine) if not dark.
next(on(L)) if does(x,switch(L)) and not on(L).
next(off(L)) if does(x,switch(L)) and on(L).
next(on(L)) if on(L) and not does(x,switch(L)).
next(off(L)) if lamp(L) and not on(L) and not does(x,switch(L)).
next(time(T)) if true(time(S)) and after(S,T).
late if true(time(3)).
terminal if late.
goal(x,100) if not dark.
goal(x,0) if dark.`

// P14.2: what holds in the states of a game
func TestGame(t *testing.T) {
	l, _, e := parser.Parse(switches)
	if e != api.OK {
		t.Fatal(e)
	}
	g, e := ground.Rules(l)
	if e != api.OK {
		t.Fatal(e)
	}
	const always = "lamp(a) lamp(b) role(x) init(off(a)) init(off(b)) init(time(0)) after(0,1) after(1,2) after(2,3)"
	for _, c := range []struct{ given, want string }{
		{"", "dark goal(x,0) legal(x,switch(a)) legal(x,switch(b)) next(off(a)) next(off(b))"},
		{"true(off(a)) true(off(b)) true(time(0)) does(x,switch(b))", "dark goal(x,0) legal(x,switch(a)) legal(x,switch(b)) next(off(a)) next(on(b)) next(time(1))"},
		{"true(off(a)) true(on(b)) true(time(1)) does(x,switch(b))", "dark on(b) goal(x,0) legal(x,switch(a)) legal(x,switch(b)) next(off(a)) next(off(b)) next(time(2))"},
		{"true(on(a)) true(on(b)) true(time(1)) does(x,switch(a))", "on(a) on(b) goal(x,100) legal(x,switch(a)) legal(x,switch(b)) legal(x,shine) next(off(a)) next(on(b)) next(time(2))"},
		{"true(on(a)) true(on(b)) true(time(3)) does(x,shine)", "on(a) on(b) late terminal goal(x,100) legal(x,shine) next(on(a)) next(on(b))"},
		{"true(on(a)) true(off(b)) true(time(3))", "on(a) dark late terminal goal(x,0) next(on(a)) next(off(b))"},
	} {
		var facts []int
		for w := range strings.FieldsSeq(c.given) {
			facts = append(facts, number(g, w))
		}
		slices.Sort(facts)
		want := slices.Clone(facts)
		for w := range strings.FieldsSeq(always + " " + c.want) {
			want = append(want, number(g, w))
		}
		slices.Sort(want)
		if got, e := model.Model(g, facts); !slices.Equal(got, want) || e != api.OK {
			t.Errorf("%s: %s, %d, want %s", c.given, texts(g, got), e, texts(g, want))
		}
	}
}

// number is the number of an atom that the ground description has.
func number(g api.Ground, text string) int {
	x, _, e := parser.Term(text)
	if i := ground.Find(g, x); e == api.OK && i >= 0 {
		return i
	}
	panic(text)
}

func texts(g api.Ground, l []int) string {
	var words []string
	for _, i := range l {
		words = append(words, term.Text(g.Atoms[i]))
	}
	return strings.Join(words, " ")
}

package sample

import (
	"strconv"
	"strings"

	"gameplayer/api"
)

// AnyDuel makes a game in which the moves of two roles together lead from place to place. Some places are terminal, and most of these give each role one goal value. If onward is set, each move leads to a place with a greater number. The first argument returns a random number below another one.
func AnyDuel(below func(n int) int, onward bool) []api.Rule {
	d := duel{below: below, places: 3 + below(5), onward: onward, even: below(2) == 0, other: "y"}
	if below(4) == 0 {
		d.other = "chance"
	}
	roles := []string{fact("role", "x"), fact("role", d.other)}
	first := below(2)
	text := roles[first] + roles[1-first] + strings.ReplaceAll(duelling, "other", d.other)
	for place := range d.places {
		text += d.moves(place)
		if place == d.places-1 || below(4) == 0 {
			text += fact("end", strconv.Itoa(place))
		}
		text += d.goals(place)
	}
	return Rules(text)
}

// duel is what the places of such a game have in common.
type duel struct {
	below  func(n int) int
	places int
	onward bool
	even   bool // the goal values add up to MaxGoal
	other  string
}

// moves returns the facts about the moves in a place: there are the moves a and b, which a role may or may not make.
func (d duel) moves(place int) string {
	text, from := "", strconv.Itoa(place)
	for _, m := range []string{"a", "b"} {
		for _, role := range []string{"x", d.other} {
			if d.below(8) > 0 {
				text += fact("can", role, from, m)
			}
		}
		for _, n := range []string{"a", "b"} {
			to := d.below(d.places)
			if d.onward {
				to = min(place+1+d.below(d.places-place), d.places-1)
			}
			text += fact("to", from, m, n, strconv.Itoa(to))
		}
	}
	return text
}

// goals returns the facts about the goal values in a place. Few roles have none, and few several.
func (d duel) goals(place int) string {
	value := 50 * d.below(3)
	second := api.MaxGoal - value
	if !d.even {
		second = 50 * d.below(3)
	}
	text := ""
	for i, role := range []string{"x", d.other} {
		if d.below(16) > 0 {
			text += fact("worth", role, strconv.Itoa(place), strconv.Itoa([...]int{value, second}[i]))
		}
		if d.below(16) == 0 {
			text += fact("worth", role, strconv.Itoa(place), "100")
		}
	}
	return text
}

const duelling = `init(0).
legal(R,M) if true(P) and can(R,P,M).
next(Q) if true(P) and does(x,M) and does(other,N) and to(P,M,N,Q).
terminal if true(P) and end(P).
goal(R,V) if true(P) and worth(R,P,V).
`

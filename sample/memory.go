package sample

import (
	"strconv"

	"gameplayer/api"
)

// Roomy copies terms so that all their lists have spare capacity.
func Roomy(l []api.Term) []api.Term {
	list := make([]api.Term, 0, len(l)+2)
	for _, t := range l {
		list = append(list, api.Term{Name: t.Name, Args: Roomy(t.Args)})
	}
	return list
}

// RoomyRules does the same to rules.
func RoomyRules(l []api.Rule) []api.Rule {
	list := make([]api.Rule, 0, len(l)+2)
	for _, r := range l {
		x := api.Rule{Head: Roomy([]api.Term{r.Head})[0], Body: make([]api.Literal, 0, len(r.Body)+2)}
		for _, y := range r.Body {
			x.Body = append(x.Body, api.Literal{Not: y.Not, Atom: Roomy([]api.Term{y.Atom})[0]})
		}
		list = append(list, x)
	}
	return list
}

// Show shows terms with what their lists have beyond their ends.
func Show(l []api.Term) string {
	text := strconv.Itoa(len(l))
	for _, t := range l[:cap(l)] {
		text += " " + t.Name + "(" + Show(t.Args) + ")"
	}
	return text
}

// ShowRules does the same for rules.
func ShowRules(l []api.Rule) string {
	text := strconv.Itoa(len(l))
	for _, r := range l[:cap(l)] {
		text += Show([]api.Term{r.Head})
		for _, y := range r.Body[:cap(r.Body)] {
			text += strconv.FormatBool(y.Not) + Show([]api.Term{y.Atom})
		}
	}
	return text
}

// Spoil changes everything that terms and their spare capacity reach. What shares memory with them is changed, too.
func Spoil(l []api.Term) {
	for i, t := range l[:cap(l)] {
		Spoil(t.Args)
		l[:cap(l)][i] = api.Term{Name: "spoilt"}
	}
}

// SpoilRules does the same to rules.
func SpoilRules(l []api.Rule) {
	for i, r := range l[:cap(l)] {
		Spoil(r.Head.Args)
		for j, y := range r.Body[:cap(r.Body)] {
			Spoil(y.Atom.Args)
			r.Body[:cap(r.Body)][j] = api.Literal{Atom: api.Term{Name: "spoilt"}}
		}
		l[:cap(l)][i] = api.Rule{Head: api.Term{Name: "spoilt"}}
	}
}

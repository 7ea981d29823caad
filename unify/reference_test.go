package unify_test

import (
	"maps"
	"math/rand/v2"
	"slices"
	"strings"

	"gameplayer/api"
	"gameplayer/lexer"
	"gameplayer/term"
)

// replaceInText replaces the variables of a text by the texts of their terms, token by token.
func replaceInText(s []api.Binding, text string) string {
	tokens, _, err := lexer.Lex(text)
	if err != api.OK {
		panic(text)
	}
	var b strings.Builder
	for _, x := range tokens {
		i := slices.IndexFunc(s, func(b api.Binding) bool { return x.Kind == api.TokenVariable && b.Var == x.Text })
		if i < 0 {
			b.WriteString(x.Text)
		} else {
			b.WriteString(term.Text(s[i].Term))
		}
	}
	return b.String()
}

// occurs reports whether a variable occurs in a text.
func occurs(v, text string) bool {
	return replaceInText([]api.Binding{{Var: v, Term: leaf("0")}}, text) != replaceInText([]api.Binding{{Var: v, Term: leaf("1")}}, text)
}

// equation says that two terms become equal.
type equation [2]api.Term

// eliminate solves equations by replacing one variable after the other everywhere. It returns the text of the term of each replaced variable.
func eliminate(equations []equation) (map[string]string, bool) {
	solved := map[string]string{}
	for len(equations) > 0 {
		x, y := equations[0][0], equations[0][1]
		equations = equations[1:]
		if !term.Variable(x.Name) {
			x, y = y, x
		}
		switch {
		case equal(x, y):
		case !term.Variable(x.Name):
			if x.Name != y.Name || len(x.Args) != len(y.Args) {
				return nil, false
			}
			for i := range x.Args {
				equations = append(equations, equation{x.Args[i], y.Args[i]})
			}
		case occurs(x.Name, term.Text(y)):
			return nil, false
		default:
			b := []api.Binding{{Var: x.Name, Term: y}}
			for i, e := range equations {
				equations[i] = equation{parse(replaceInText(b, term.Text(e[0]))), parse(replaceInText(b, term.Text(e[1])))}
			}
			for v, text := range solved {
				solved[v] = replaceInText(b, text)
			}
			solved[x.Name] = term.Text(y)
		}
	}
	return solved, true
}

// parse reads a term of any depth that is known to be right.
func parse(text string) api.Term {
	var open []api.Term
	last := api.Term{}
	for _, x := range strings.FieldsFunc(strings.NewReplacer("(", "\n(\n", ")", "\n)\n", ",", "\n,\n").Replace(text), func(r rune) bool { return r == '\n' }) {
		switch x {
		case "(":
			open = append(open, last)
		case ",", ")":
			top := &open[len(open)-1]
			top.Args = append(top.Args, last)
			if x == ")" {
				last = *top
				open = open[:len(open)-1]
			}
		default:
			last = leaf(x)
		}
	}
	return last
}

// unifier is the text of the most general unifier in normal form of two valid terms.
func unifier(a, b api.Term) (string, bool) {
	solved, ok := eliminate([]equation{{a, b}})
	if !ok {
		return "", false
	}
	swap := map[string]string{} // a variable that remains, and the least one that becomes equal to it
	for v, text := range solved {
		if term.Variable(text) && (swap[text] == "" || v < swap[text]) && v < text {
			swap[text] = v
		}
	}
	var s, swaps []api.Binding
	for v, least := range swap {
		swaps = append(swaps, api.Binding{Var: v, Term: leaf(least)})
		solved[v] = v
	}
	for _, v := range slices.Sorted(maps.Keys(solved)) {
		t := parse(replaceInText(swaps, solved[v]))
		if term.Depth(t) > api.MaxDepth {
			return "", false
		}
		if t.Name != v {
			s = append(s, api.Binding{Var: v, Term: t})
		}
	}
	return show(s), true
}

// vocabulary is what random terms are made of.
type vocabulary struct {
	r                  *rand.Rand
	variables, symbols []string
}

// term makes a term of at most a depth; one with arguments has the more of them, the later its name is.
func (v vocabulary) term(depth int) api.Term {
	if depth == 1 || v.r.IntN(3) == 0 {
		if k := v.r.IntN(len(v.variables) + 1); k < len(v.variables) {
			return leaf(v.variables[k])
		}
		return leaf([]string{"a", "b", "7"}[v.r.IntN(3)])
	}
	k := v.r.IntN(len(v.symbols))
	t := fun(v.symbols[k])
	for range k + 1 {
		t.Args = append(t.Args, v.term(depth-1))
	}
	return t
}

// substitution makes a valid substitution of some of the variables, which are ascending.
func (v vocabulary) substitution(depth int) []api.Binding {
	var s []api.Binding
	for _, x := range v.variables {
		if v.r.IntN(3) > 0 {
			s = append(s, api.Binding{Var: x, Term: v.term(depth)})
		}
	}
	return s
}

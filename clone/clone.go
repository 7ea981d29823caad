// Package clone copies terms and rules with all their lists, since results and objects share no memory with arguments.
package clone

import "gameplayer/api"

// Term copies a term.
func Term(t api.Term) api.Term { return api.Term{Name: t.Name, Args: Terms(t.Args)} }

// Terms copies a list of terms.
func Terms(l []api.Term) []api.Term {
	if len(l) == 0 {
		return nil
	}
	copied := make([]api.Term, len(l))
	for i, t := range l {
		copied[i] = Term(t)
	}
	return copied
}

// Rules copies a list of rules.
func Rules(l []api.Rule) []api.Rule {
	var copied []api.Rule
	for _, r := range l {
		x := api.Rule{Head: Term(r.Head)}
		for _, y := range r.Body {
			x.Body = append(x.Body, api.Literal{Not: y.Not, Atom: Term(y.Atom)})
		}
		copied = append(copied, x)
	}
	return copied
}

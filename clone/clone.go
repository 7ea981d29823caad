// Package clone copies terms, rules and networks with all their lists, since results and objects share no memory with arguments.
package clone

import (
	"slices"

	"gameplayer/api"
)

// Term copies a term.
func Term(t api.Term) api.Term { return api.Term{Name: t.Name, Args: Terms(t.Args)} }

// Terms copies a list of terms.
func Terms(l []api.Term) []api.Term {
	if len(l) == 0 {
		return nil
	}
	copied := make([]api.Term, len(l))
	for i, t := range l {
		copied[i] = Term(t)
	}
	return copied
}

// Rules copies a list of rules.
func Rules(l []api.Rule) []api.Rule {
	var copied []api.Rule
	for _, r := range l {
		x := api.Rule{Head: Term(r.Head)}
		for _, y := range r.Body {
			x.Body = append(x.Body, api.Literal{Not: y.Not, Atom: Term(y.Atom)})
		}
		copied = append(copied, x)
	}
	return copied
}

// Net copies a network.
func Net(net api.Net) api.Net {
	copied := net // the lists follow
	copied.Gates = slices.Clone(net.Gates)
	for i, g := range net.Gates {
		copied.Gates[i].In = slices.Clone(g.In)
	}
	copied.Roles, copied.Bases = Terms(net.Roles), Terms(net.Bases)
	copied.Inputs = slices.Clone(net.Inputs)
	for i, x := range net.Inputs {
		copied.Inputs[i].Move = Term(x.Move)
	}
	copied.Initial, copied.Next, copied.Legal = slices.Clone(net.Initial), slices.Clone(net.Next), slices.Clone(net.Legal)
	copied.Goals, copied.Sees = outputs(net.Goals), outputs(net.Sees)
	return copied
}

func outputs(l []api.Output) []api.Output {
	copied := slices.Clone(l)
	for i, o := range l {
		copied[i].Term = Term(o.Term)
	}
	return copied
}

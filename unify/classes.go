package unify

import (
	"slices"

	"gameplayer/api"
	"gameplayer/term"
)

// classes divides the parts of two terms into classes of parts that become equal. It gives, by its text, for each part that does not lead its class another part of this class. A class is led by a part that is no variable, if it has one, and otherwise by its least variable.
type classes map[string]api.Term

// Unify returns the most general unifier of two terms.
func Unify(a, b api.Term) ([]api.Binding, bool) {
	if !term.Valid(a) || !term.Valid(b) {
		return nil, false
	}
	c := classes{}
	if !c.join(a, b) {
		return nil, false
	}
	vars := term.Vars(a, b)
	slices.Sort(vars)
	var s []api.Binding
	for _, v := range vars {
		t := c.resolve(leaf(v), api.MaxDepth)
		if t.Name != v {
			s = append(s, api.Binding{Var: v, Term: t})
		}
	}
	if !Valid(s) {
		return nil, false
	}
	return s, true
}

// join joins the classes of two terms, and then those of their arguments. It reports whether that is possible, apart from variables that would become a part of themselves. It terminates even if there are such variables, because there are ever fewer classes.
func (c classes) join(a, b api.Term) bool {
	a, b = c.leader(a), c.leader(b)
	if term.Compare(a, b) == 0 {
		return true
	}
	if leads(b, a) {
		a, b = b, a
	}
	c[term.Text(b)] = a
	if variable(b) {
		return true
	}
	if !sameHead(a, b) {
		return false
	}
	for i := range a.Args {
		if !c.join(a.Args[i], b.Args[i]) {
			return false
		}
	}
	return true
}

// leads reports whether a, and not b, leads a class that both are in.
func leads(a, b api.Term) bool { return variable(b) && (!variable(a) || a.Name < b.Name) }

// leader returns the part that leads the class of a part.
func (c classes) leader(t api.Term) api.Term {
	for {
		next, ok := c[term.Text(t)]
		if !ok {
			return t
		}
		t = next
	}
}

// resolve returns what a part becomes, but only to one more than the given depth: beyond that the result is too deep in any case, and without an end where a variable would become a part of itself.
func (c classes) resolve(t api.Term, depth int) api.Term {
	leader := c.leader(t)
	resolved := leaf(leader.Name)
	if depth == 0 {
		return resolved
	}
	for _, a := range leader.Args {
		resolved.Args = append(resolved.Args, c.resolve(a, depth-1))
	}
	return resolved
}

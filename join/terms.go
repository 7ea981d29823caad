// Package join finds the instances of rules whose atoms are in lists of atoms. Terms are numbered for that; layers 12 to 16 share it.
package join

import (
	"slices"

	"gameplayer/api"
)

// Pattern is a term of a rule, in which variables are numbered.
type Pattern struct {
	variable int // its number, or -1 for another term
	name     string
	args     []Pattern
}

// NewPattern returns the pattern of a term. The number of a variable is its index in a list; what is not in the list is no variable.
func NewPattern(t api.Term, vars []string) Pattern {
	p := Pattern{variable: -1, name: t.Name}
	if len(t.Args) == 0 {
		p.variable = slices.Index(vars, t.Name)
	}
	for _, a := range t.Args {
		p.args = append(p.args, NewPattern(a, vars))
	}
	return p
}

// Vars returns the variables of a pattern.
func (p Pattern) Vars() Set {
	if p.variable >= 0 {
		return single(p.variable)
	}
	var vars Set
	for _, a := range p.args {
		vars |= a.Vars()
	}
	return vars
}

// entry is a term with a number.
type entry struct {
	text  string
	name  string
	args  []int
	depth int
}

// Terms gives valid terms numbers from 1 on.
type Terms struct {
	numbers map[string]int // by the texts
	entries []entry        // by the numbers
}

// NewTerms returns a numbering in which no term has a number yet.
func NewTerms() *Terms { return &Terms{numbers: map[string]int{}, entries: make([]entry, 1)} }

// Add returns the number of a pattern with the terms of a row. If it has none, it gets one.
func (n *Terms) Add(p Pattern, r Row) int {
	if p.variable >= 0 {
		return r[p.variable]
	}
	if number := n.Number(p, r); number > 0 {
		return number
	}
	x := entry{text: string(n.AppendText(nil, p, r)), name: p.name}
	for _, a := range p.args {
		number := n.Add(a, r)
		x.args = append(x.args, number)
		x.depth = max(x.depth, n.entries[number].depth)
	}
	x.depth++
	n.numbers[x.text] = len(n.entries)
	n.entries = append(n.entries, x)
	return len(n.entries) - 1
}

// Number returns the number of a pattern with the terms of a row, or 0 if it has none.
func (n *Terms) Number(p Pattern, r Row) int {
	if p.variable >= 0 {
		return r[p.variable]
	}
	var space [64]byte
	return n.numbers[string(n.AppendText(space[:0], p, r))]
}

// AppendText appends to a text that of a pattern with the terms of a row.
func (n *Terms) AppendText(text []byte, p Pattern, r Row) []byte {
	if p.variable >= 0 {
		return append(text, n.entries[r[p.variable]].text...)
	}
	text = append(text, p.name...)
	before := byte('(')
	for _, a := range p.args {
		text = n.AppendText(append(text, before), a, r)
		before = ','
	}
	if len(p.args) > 0 {
		text = append(text, ')')
	}
	return text
}

// Head returns the name of the term with a number, and how many arguments it has.
func (n *Terms) Head(number int) (string, int) {
	return n.entries[number].name, len(n.entries[number].args)
}

// Text returns the text of the term with a number.
func (n *Terms) Text(number int) string { return n.entries[number].text }

// Term returns the term with a number.
func (n *Terms) Term(number int) api.Term {
	x := n.entries[number]
	t := api.Term{Name: x.name}
	for _, a := range x.args {
		t.Args = append(t.Args, n.Term(a))
	}
	return t
}

// Depth returns the depth of a pattern with the terms of a row.
func (n *Terms) Depth(p Pattern, r Row) int {
	if p.variable >= 0 {
		return n.entries[r[p.variable]].depth
	}
	deepest := 0
	for _, a := range p.args {
		deepest = max(deepest, n.Depth(a, r))
	}
	return deepest + 1
}

// Match returns the row with which a pattern becomes the term with a number, and whether there is one.
func (n *Terms) Match(p Pattern, number int) (Row, bool) {
	var r Row
	ok := n.extend(&r, p, number)
	return r, ok
}

// extend adds to a row what makes a pattern the term with a number, and reports whether it can.
func (n *Terms) extend(r *Row, p Pattern, number int) bool {
	if p.variable >= 0 {
		known := r[p.variable]
		r[p.variable] = number
		return known == 0 || known == number
	}
	x := &n.entries[number]
	if p.name != x.name || len(p.args) != len(x.args) {
		return false
	}
	for i, a := range p.args {
		if !n.extend(r, a, x.args[i]) {
			return false
		}
	}
	return true
}

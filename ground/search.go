package ground

import (
	"slices"

	"gameplayer/api"
	"gameplayer/join"
	"gameplayer/term"
)

// numbers are the numbers of the terms in a list of atoms.
type numbers struct {
	*join.Terms
	atoms   []int       // those of the atoms
	indexes map[int]int // the indexes of the atoms by their numbers
}

func numberTerms(atoms []api.Term) numbers {
	n := numbers{Terms: join.NewTerms(), indexes: map[int]int{}}
	for i := range len(atoms) {
		number := n.Add(join.NewPattern(atoms[i], nil), join.Row{})
		n.atoms = append(n.atoms, number)
		n.indexes[number] = i
	}
	return n
}

// parts are the atoms of a rule by what is required of them.
type parts struct {
	head     api.Term
	pos, neg []api.Term
	differ   [][2]api.Term // pairs of terms
}

// divide returns the parts of a rule without literals not distinct(a, b).
func divide(r api.Rule) parts {
	p := parts{head: r.Head}
	for _, l := range r.Body {
		switch {
		case l.Atom.Name == distinct:
			p.differ = append(p.differ, [2]api.Term{l.Atom.Args[0], l.Atom.Args[1]})
		case l.Not:
			p.neg = append(p.neg, l.Atom)
		default:
			p.pos = append(p.pos, l.Atom)
		}
	}
	return p
}

// eachInstance calls found with the ground rules of a rule, some of them repeatedly, until it returns false.
func eachInstance(r api.Rule, n numbers, found func(x api.GroundRule) bool) {
	r, ok := join.WithoutEqualities(r)
	if !ok {
		return
	}
	p := divide(r)
	listed := append([]api.Term{p.head}, p.pos...)
	vars := term.Vars(listed...)
	head, pos, neg := patterns(vars, p.head), patterns(vars, p.pos...), patterns(vars, p.neg...)
	var tables []join.Table
	var all join.Set
	for _, x := range slices.Concat(head, pos) {
		tables = append(tables, join.Table{Vars: x.Vars(), Rows: n.rows(x)})
		all |= x.Vars()
	}
	join.Find(tables, n.conditions(p, vars), all, func(r join.Row) bool {
		return found(api.GroundRule{Head: n.listed(r, head)[0], Pos: n.listed(r, pos), Neg: n.listed(r, neg)})
	})
}

func patterns(vars []string, l ...api.Term) []join.Pattern {
	var list []join.Pattern
	for _, t := range l {
		list = append(list, join.NewPattern(t, vars))
	}
	return list
}

// rows returns a row for each atom that matches a pattern.
func (n numbers) rows(p join.Pattern) []join.Row {
	var rows []join.Row
	for _, number := range n.atoms {
		if r, ok := n.Match(p, number); ok {
			rows = append(rows, r)
		}
	}
	return rows
}

// conditions are those under which an instance with its atoms in the list yields a ground rule. That numbers of atoms differ, as they must, means that the atoms do.
func (n numbers) conditions(p parts, vars []string) []join.Condition {
	pairs := slices.Clone(p.differ)
	for _, a := range p.pos {
		pairs = append(pairs, [2]api.Term{a, p.head})
		for _, b := range p.neg {
			pairs = append(pairs, [2]api.Term{a, b})
		}
	}
	var list []join.Condition
	for _, x := range pairs {
		if y, ok := join.NewEquality(x[0], x[1], vars); ok {
			list = append(list, y.Differ(n.Terms))
		}
	}
	return list
}

// listed returns the indexes of those atoms of an instance that are in the list, ascending, each once.
func (n numbers) listed(r join.Row, l []join.Pattern) []int {
	var list []int
	for _, p := range l {
		if i, ok := n.indexes[n.Number(p, r)]; ok {
			list = append(list, i)
		}
	}
	slices.Sort(list)
	return slices.Compact(list)
}

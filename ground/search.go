package ground

import (
	"slices"

	"gameplayer/api"
	"gameplayer/term"
	"gameplayer/unify"
)

// set is a set of small numbers, those of variables or those of tables.
type set uint

const everything = ^set(0)

func single(i int) set { return 1 << i }

func (s set) has(i int) bool { return s&single(i) != 0 }

// varsOf returns the numbers of the variables of terms, which are their indexes in a list.
func varsOf(vars []string, l ...api.Term) set {
	var s set
	for _, v := range term.Vars(l...) {
		s |= single(slices.Index(vars, v))
	}
	return s
}

// row has the numbers of the terms of variables; 0 for a variable that has no term.
type row [api.MaxVars]int

// table has the rows of the variables with which an atom of a rule is in the list of atoms.
type table struct {
	number int
	vars   set
	rows   []row
}

// choice is what is known of an instance when rows are chosen from some tables.
type choice struct {
	row
	bound set              // the variables that have a term
	from  [api.MaxVars]set // for each of these the table from which it has its term
}

// search looks for the instances of a rule, by a choice of a row from each table.
type search struct {
	parts
	vars       []string
	conditions []condition
	numbers    numbers
	found      func(x api.GroundRule) bool
	ended      bool // found has returned false
}

// eachInstance calls found with the ground rules of a rule, some of them repeatedly, until it returns false.
func eachInstance(r api.Rule, atoms []api.Term, n numbers, found func(x api.GroundRule) bool) {
	p, ok := withoutEqualities(r)
	if !ok {
		return
	}
	patterns := append([]api.Term{p.head}, p.pos...)
	x := search{parts: p, vars: term.Vars(patterns...), numbers: n, found: found}
	x.conditions = conditions(p, x.vars)
	if slices.ContainsFunc(x.conditions, func(c condition) bool { return len(c.equations) == 0 }) {
		return
	}
	var tables []table
	for i := range len(patterns) {
		tables = append(tables, table{i, varsOf(x.vars, patterns[i]), x.rows(patterns[i], atoms)})
	}
	x.choose(tables, choice{})
}

// rows returns a row for each atom that matches a pattern.
func (x *search) rows(pattern api.Term, atoms []api.Term) []row {
	var rows []row
	for _, t := range atoms {
		s, ok := unify.Match(pattern, t, nil)
		if !ok {
			continue
		}
		var r row
		for _, b := range s {
			r[slices.Index(x.vars, b.Var)] = x.number(b.Term, row{})
		}
		rows = append(rows, r)
	}
	return rows
}

// number returns the number of a term with the variables of a row; 0 if it has none.
func (x *search) number(t api.Term, r row) int {
	return x.numbers.of(t, func(name string) (int, bool) {
		i := slices.Index(x.vars, name)
		if i < 0 {
			return 0, false
		}
		return r[i], true
	})
}

// choose chooses rows from the open tables in all ways, the smallest table first. When there are no more ways, it returns tables from which rows were chosen before and which suffice as the reason: with the same rows from these, there are no more instances whatever is chosen from the others. So, many choices that make no difference need not be tried.
func (x *search) choose(open []table, c choice) set {
	if len(open) == 0 {
		x.ended = !x.found(x.groundRule(c.row))
		return everything
	}
	next := smallest(open)
	t := open[next]
	rest := slices.Delete(slices.Clone(open), next, next+1)
	reason := c.sources(t.vars)
	for i := range len(t.rows) {
		why := x.follow(rest, c, c.with(t, t.rows[i]))
		if x.ended || !why.has(t.number) {
			return why
		}
		reason |= why
	}
	return reason &^ single(t.number)
}

func smallest(tables []table) int {
	best := 0
	for i, t := range tables {
		if len(t.rows) < len(tables[best].rows) {
			best = i
		}
	}
	return best
}

// with returns a choice with a row of a table in addition.
func (c choice) with(t table, r row) choice {
	for v := range api.MaxVars {
		if t.vars.has(v) && !c.bound.has(v) {
			c.row[v] = r[v]
			c.from[v] = single(t.number)
		}
	}
	c.bound |= t.vars
	return c
}

// sources returns the tables from which variables have their terms.
func (c choice) sources(vars set) set {
	var tables set
	for v := range api.MaxVars {
		if vars.has(v) {
			tables |= c.from[v]
		}
	}
	return tables
}

// follow leaves the rows of the open tables that agree with a choice, and goes on from there. It returns the same as choose.
func (x *search) follow(open []table, before, c choice) set {
	fresh := c.bound &^ before.bound
	for _, y := range x.conditions {
		if y.vars&fresh != 0 && y.vars&^c.bound == 0 && x.allHold(y.equations, c.row) {
			return c.sources(y.vars)
		}
	}
	rest := make([]table, len(open))
	for i, t := range open {
		rest[i] = t.agreeing(c.row, fresh)
		if len(rest[i].rows) == 0 {
			return c.sources(t.vars)
		}
	}
	return x.choose(rest, c)
}

// allHold reports whether all equations hold for the terms of a row.
func (x *search) allHold(equations []api.Binding, r row) bool {
	return !slices.ContainsFunc(equations, func(b api.Binding) bool {
		return x.number(api.Term{Name: b.Var}, r) != x.number(b.Term, r)
	})
}

// agreeing returns a table without the rows that give some variables other terms.
func (t table) agreeing(r row, vars set) table {
	vars &= t.vars
	if vars == 0 {
		return t
	}
	var rows []row
	for _, other := range t.rows {
		if other.agrees(r, vars) {
			rows = append(rows, other)
		}
	}
	return table{t.number, t.vars, rows}
}

func (r row) agrees(other row, vars set) bool {
	for v := range api.MaxVars {
		if vars.has(v) && r[v] != other[v] {
			return false
		}
	}
	return true
}

// groundRule returns the ground rule of the instance that has the terms of a row.
func (x *search) groundRule(r row) api.GroundRule {
	return api.GroundRule{Head: x.indexes(r, x.head)[0], Pos: x.indexes(r, x.pos...), Neg: x.indexes(r, x.neg...)}
}

// indexes returns the indexes of those atoms of an instance that are in the list, ascending, each once.
func (x *search) indexes(r row, l ...api.Term) []int {
	var list []int
	for _, t := range l {
		if i, listed := x.numbers.atoms[x.number(t, r)]; listed {
			list = append(list, i)
		}
	}
	slices.Sort(list)
	return slices.Compact(list)
}

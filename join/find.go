package join

import (
	"slices"

	"gameplayer/api"
)

// Row has the numbers of the terms of variables; 0 for a variable that has no term.
type Row [api.MaxVars]int

// Set is a set of small numbers, those of variables or those of tables.
type Set uint

// Table has the rows of some variables with which an atom of a rule is in a list, each once.
type Table struct {
	Vars Set
	Rows []Row
}

// Condition says which rows are no instances, by the terms of some variables.
type Condition struct {
	Vars  Set
	Fails func(r Row) bool
}

// search is what does not change while rows are chosen, and what was met.
type search struct {
	conditions []Condition
	wanted     Set
	found      func(r Row) bool
	ended      bool // found has returned false
	met        map[state]bool
}

// open is a table from which no row was chosen yet, with its number.
type open struct {
	Table
	number int
}

// choice is what is known of an instance when rows are chosen from some tables.
type choice struct {
	row   Row
	bound Set              // the variables that have a term
	from  [api.MaxVars]Set // for each of these the table from which it has its term
}

// state is what determines how a search goes on: the open tables, and the terms of those variables that matter from there on.
type state struct {
	tables Set
	row    Row
}

// Find calls found with instances until it returns false. An instance agrees with a row of each table, and no condition fails. Of the instances with the same terms of the wanted variables, one suffices, and others may be left out.
func Find(tables []Table, conditions []Condition, wanted Set, found func(r Row) bool) {
	all := make([]open, len(tables))
	for i, t := range tables {
		if len(t.Rows) == 0 {
			return
		}
		all[i] = open{t, i}
	}
	if slices.ContainsFunc(conditions, func(y Condition) bool { return y.Vars == 0 && y.Fails(Row{}) }) {
		return
	}
	x := search{conditions: conditions, wanted: wanted, found: found, met: map[state]bool{}}
	x.choose(all, choice{})
}

func single(i int) Set { return 1 << i }

// Singles returns the sets of one variable of a set each.
func (s Set) Singles() []Set {
	var l []Set
	for i := range api.MaxVars {
		if s.has(i) {
			l = append(l, single(i))
		}
	}
	return l
}

func (s Set) has(i int) bool { return s&single(i) != 0 }

// choose chooses rows from the open tables in all ways, the smallest table first. When there are no more ways, it returns tables from which rows were chosen before and which suffice as the reason: with the same rows from these, no more is found whatever is chosen from the others. So, many choices that make no difference need not be tried.
func (x *search) choose(tables []open, c choice) Set {
	if len(tables) == 0 {
		x.ended = !x.found(c.row)
		return c.sources(x.wanted)
	}
	if again, reason := x.repeated(tables, c); again {
		return reason
	}
	next := smallest(tables)
	t := tables[next]
	rest := slices.Delete(slices.Clone(tables), next, next+1)
	reason := c.sources(t.Vars)
	for _, r := range t.Rows {
		why := x.follow(rest, c, c.with(t, r))
		if x.ended || !why.has(t.number) {
			return why
		}
		reason |= why
	}
	return reason &^ single(t.number)
}

// repeated reports whether the search was here before, and what the reason is for not going on then.
func (x *search) repeated(tables []open, c choice) (bool, Set) {
	here := state{}
	needed := x.wanted
	for _, t := range tables {
		here.tables |= single(t.number)
		needed |= t.Vars
	}
	for _, y := range x.conditions {
		if y.Vars&^c.bound != 0 {
			needed |= y.Vars
		}
	}
	needed &= c.bound
	if needed == c.bound || len(tables) == 1 { // no state with all variables repeats; and the last table is gone through quickly
		return false, 0
	}
	for v := range api.MaxVars {
		if needed.has(v) {
			here.row[v] = c.row[v]
		}
	}
	if x.met[here] {
		return true, c.sources(needed)
	}
	x.met[here] = true
	return false, 0
}

func smallest(tables []open) int {
	best := 0
	for i, t := range tables {
		if len(t.Rows) < len(tables[best].Rows) {
			best = i
		}
	}
	return best
}

// with returns a choice with a row of a table in addition.
func (c choice) with(t open, r Row) choice {
	for v := range api.MaxVars {
		if t.Vars.has(v) && !c.bound.has(v) {
			c.row[v] = r[v]
			c.from[v] = single(t.number)
		}
	}
	c.bound |= t.Vars
	return c
}

// sources returns the tables from which variables have their terms.
func (c choice) sources(vars Set) Set {
	var tables Set
	for v := range api.MaxVars {
		if vars.has(v) {
			tables |= c.from[v]
		}
	}
	return tables
}

// follow leaves the rows of the open tables that agree with a choice, and goes on from there. It returns the same as choose.
func (x *search) follow(tables []open, before, c choice) Set {
	fresh := c.bound &^ before.bound
	for _, y := range x.conditions {
		if y.Vars&fresh != 0 && y.Vars&^c.bound == 0 && y.Fails(c.row) {
			return c.sources(y.Vars)
		}
	}
	rest := make([]open, len(tables))
	for i, t := range tables {
		rest[i] = t.agreeing(c.row, fresh)
		if len(rest[i].Rows) == 0 {
			return c.sources(t.Vars)
		}
	}
	return x.choose(rest, c)
}

// agreeing returns a table without the rows that give some variables other terms.
func (t open) agreeing(r Row, vars Set) open {
	vars &= t.Vars
	if vars == 0 {
		return t
	}
	var rows []Row
	for _, other := range t.Rows {
		if other.agrees(r, vars) {
			rows = append(rows, other)
		}
	}
	return open{Table{t.Vars, rows}, t.number}
}

func (r Row) agrees(other Row, vars Set) bool {
	for v := range api.MaxVars {
		if vars.has(v) && r[v] != other[v] {
			return false
		}
	}
	return true
}

package derive

import (
	"slices"

	"gameplayer/api"
	"gameplayer/join"
	"gameplayer/term"
)

// evaluation is the state of an evaluation.
type evaluation struct {
	*Program
	terms  *join.Terms
	held   map[string]int // the numbers of the atoms that hold, by their texts
	lists  map[relation]*list
	tables [][]table // for each rule those of the literals that bind
}

// list has the numbers of the atoms of a relation, in the order in which they were added. The old ones were added before the last round.
type list struct {
	numbers []int
	old     int
}

// table has the rows of the atoms that match a literal, in the order of the list.
type table struct {
	rows  []join.Row
	taken int // how many atoms of the list were looked at
	old   int // how many rows belong to old atoms
}

// All returns, ascending, the ground atoms that hold if some are given. The error is that of the first round that has one.
func (p *Program) All(given []api.Term) ([]api.Term, api.Errno) {
	x := p.start(given)
	for _, rules := range p.order {
		for first := true; ; first = false {
			count, e := x.round(rules, first)
			if e != api.OK {
				return nil, e
			}
			if count == 0 {
				break
			}
		}
	}
	return x.termsOf(x.held), api.OK
}

// Round returns, ascending, the heads of the instances of all rules whose bodies hold in a set of ground atoms.
func (p *Program) Round(atoms []api.Term) ([]api.Term, api.Errno) {
	x := p.start(atoms)
	heads, e := x.heads(slices.Concat(p.order...), true)
	if e != api.OK {
		return nil, e
	}
	return x.termsOf(heads), api.OK
}

// start is the evaluation before the first round.
func (p *Program) start(given []api.Term) *evaluation {
	x := &evaluation{Program: p, terms: join.NewTerms(), held: map[string]int{}, lists: map[relation]*list{}}
	for _, r := range p.rules {
		x.tables = append(x.tables, make([]table, len(r.pos)))
	}
	atoms := map[string]int{}
	for _, t := range given {
		n := x.terms.Add(join.NewPattern(t, nil), join.Row{})
		atoms[x.terms.Text(n)] = n
	}
	x.add(atoms)
	return x
}

// termsOf returns atoms, ascending.
func (x *evaluation) termsOf(atoms map[string]int) []api.Term {
	var l []api.Term
	for _, n := range atoms {
		l = append(l, x.terms.Term(n))
	}
	slices.SortFunc(l, term.Compare)
	return l
}

// add adds atoms that do not hold before.
func (x *evaluation) add(atoms map[string]int) {
	for _, l := range x.lists {
		l.old = len(l.numbers)
	}
	var numbers []int
	for text, n := range atoms {
		x.held[text] = n
		numbers = append(numbers, n)
	}
	slices.Sort(numbers)
	for _, n := range numbers {
		name, args := x.terms.Head(n)
		l := x.lists[relation{name, args}]
		if l == nil {
			l = &list{}
			x.lists[relation{name, args}] = l
		}
		l.numbers = append(l.numbers, n)
	}
}

// round adds what one round of some rules yields, the first one of a stratum or a later one, and returns how many atoms are new.
func (x *evaluation) round(rules []int, first bool) (int, api.Errno) {
	heads, e := x.heads(rules, first)
	if e != api.OK {
		return 0, e
	}
	for text := range heads {
		if x.held[text] > 0 {
			delete(heads, text)
		}
	}
	if len(x.held)+len(heads) > api.MaxAtoms {
		return 0, api.ErrTooLarge
	}
	x.add(heads)
	return len(heads), api.OK
}

// heads returns the heads of the instances of some rules whose bodies hold, by their texts. After the first round of a stratum, those of instances without fresh atoms, which are the ones that the round before has added, may be left out: they hold already.
func (x *evaluation) heads(rules []int, first bool) (map[string]int, api.Errno) {
	heads := map[string]int{}
	for _, i := range rules {
		head := x.rules[i].head
		deep := false
		x.search(i, first, func(r join.Row) bool {
			if x.terms.Depth(head, r) > api.MaxDepth {
				deep = true
				return false
			}
			n := x.terms.Add(head, r)
			heads[x.terms.Text(n)] = n
			return len(heads) <= api.MaxAtoms
		})
		many := len(heads) > api.MaxAtoms
		switch {
		case deep || many && slices.ContainsFunc(rules, x.yieldsDeep):
			return nil, api.ErrDepth
		case many:
			return nil, api.ErrTooLarge
		}
	}
	return heads, api.OK
}

// search calls found with the terms of the variables of the head in instances of a rule, until it returns false: in all instances, or in those with fresh atoms.
func (x *evaluation) search(i int, all bool, found func(r join.Row) bool) {
	wanted := x.rules[i].head.Vars()
	if all {
		x.find(i, none, wanted, found)
		return
	}
	ended := false
	for j := range x.rules[i].pos {
		x.find(i, j, wanted, func(r join.Row) bool {
			ended = !found(r)
			return !ended
		})
		if ended {
			return
		}
	}
}

// yieldsDeep reports whether the head of an instance of a rule is too deep. There may be far too many heads to look at each, but one is too deep if the term of one of its variables makes it so, or whatever their terms are; therefore the terms of each variable are looked for alone.
func (x *evaluation) yieldsDeep(i int) bool {
	head := x.rules[i].head
	deep := false
	for _, wanted := range append(head.Vars().Singles(), 0) {
		x.find(i, none, wanted, func(r join.Row) bool {
			deep = deep || x.terms.Depth(head, r) > api.MaxDepth
			return !deep
		})
	}
	return deep
}

// none says that no literal must have a fresh atom.
const none = -1

// find calls found with the rows of instances whose bodies hold, as join.Find does; if a literal is given, with those of instances of which it has the first fresh atom.
func (x *evaluation) find(i int, fresh int, wanted join.Set, found func(r join.Row) bool) {
	r := x.rules[i]
	var tables []join.Table
	for j, l := range r.pos {
		rows, old := x.rows(l, &x.tables[i][j])
		switch {
		case j == fresh:
			rows = rows[old:]
		case j < fresh:
			rows = rows[:old]
		}
		if len(rows) == 0 {
			return
		}
		tables = append(tables, join.Table{Vars: l.vars, Rows: rows})
	}
	join.Find(tables, x.conditions(r), wanted, found)
}

// rows returns the rows of the atoms that match a literal, and how many of them belong to old atoms.
func (x *evaluation) rows(l literal, t *table) ([]join.Row, int) {
	atoms := x.lists[l.relation]
	if atoms == nil {
		return nil, 0
	}
	if t.taken <= atoms.old {
		x.take(l, t, atoms.numbers[:atoms.old])
		t.old = len(t.rows)
	}
	x.take(l, t, atoms.numbers)
	return t.rows, t.old
}

// take adds to a table the rows of those atoms at which it has not looked.
func (x *evaluation) take(l literal, t *table, atoms []int) {
	for ; t.taken < len(atoms); t.taken++ {
		if r, ok := x.terms.Match(l.Pattern, atoms[t.taken]); ok {
			t.rows = append(t.rows, r)
		}
	}
}

// conditions are those of the literals that do not bind.
func (x *evaluation) conditions(r rule) []join.Condition {
	var l []join.Condition
	for _, y := range r.equal {
		l = append(l, y.Differ(x.terms))
	}
	for _, y := range r.neg {
		l = append(l, join.Condition{Vars: y.vars, Fails: func(r join.Row) bool { return x.holds(y, r) }})
	}
	return l
}

// holds reports whether the atom of a literal holds for the terms of a row.
func (x *evaluation) holds(l literal, r join.Row) bool {
	var space [64]byte
	return x.held[string(x.terms.AppendText(space[:0], l.Pattern, r))] > 0
}

package join_test

import (
	"math/rand/v2"
	"testing"

	"gameplayer/api"
	"gameplayer/join"
)

// only is a row without the terms of variables that are not in a set.
func only(r join.Row, vars join.Set) join.Row {
	for v := range r {
		if vars&(1<<v) == 0 {
			r[v] = 0
		}
	}
	return r
}

// anyTable makes a table with distinct rows over a few terms.
func anyTable(r *rand.Rand, values int) join.Table {
	t := join.Table{Vars: join.Set(r.IntN(1 << api.MaxVars))}
	met := map[join.Row]bool{}
	for range 1 + r.IntN(30) {
		var row join.Row
		for v := range row {
			row[v] = 1 + r.IntN(values)
		}
		row = only(row, t.Vars)
		if !met[row] {
			t.Rows = append(t.Rows, row)
		}
		met[row] = true
	}
	return t
}

// anyCondition makes a condition that fails for some terms of its variables.
func anyCondition(r *rand.Rand, values int, within join.Set) join.Condition {
	vars := within & join.Set(r.IntN(1<<api.MaxVars))
	seed := r.Uint64()
	odds := 2 + r.IntN(4)
	return join.Condition{Vars: vars, Fails: func(row join.Row) bool {
		sum := seed
		for _, n := range only(row, vars) {
			sum = sum*31 + uint64(n)
		}
		return rand.New(rand.NewPCG(sum, 1)).IntN(odds) == 0
	}}
}

// simple finds the instances by a choice of a row from each table, in all ways.
func simple(tables []join.Table, conditions []join.Condition, bound join.Set, row join.Row, found func(r join.Row)) {
	if len(tables) == 0 {
		for _, y := range conditions {
			if y.Fails(row) {
				return
			}
		}
		found(row)
		return
	}
	t := tables[0]
rows:
	for _, r := range t.Rows {
		longer := row
		for v := range r {
			switch in := join.Set(1) << v; {
			case t.Vars&in != 0 && bound&in != 0 && row[v] != r[v]:
				continue rows
			case t.Vars&in != 0:
				longer[v] = r[v]
			}
		}
		simple(tables[1:], conditions, bound|t.Vars, longer, found)
	}
}

// Find finds all terms of the wanted variables, and nothing but instances.
func TestFindAgainstAllWays(t *testing.T) {
	r := rand.New(rand.NewPCG(0, 1))
	none, few, many := 0, 0, 0
	for range 20000 {
		values := 1 + r.IntN(4)
		var tables []join.Table
		var conditions []join.Condition
		var bound join.Set
		for range r.IntN(6) {
			x := anyTable(r, values)
			tables = append(tables, x)
			bound |= x.Vars
		}
		for range r.IntN(4) {
			conditions = append(conditions, anyCondition(r, values, bound))
		}
		wanted := bound & join.Set(r.IntN(1<<api.MaxVars))
		instances, want := map[join.Row]bool{}, map[join.Row]bool{}
		simple(tables, conditions, 0, join.Row{}, func(row join.Row) {
			instances[row] = true
			want[only(row, wanted)] = true
		})
		got := map[join.Row]bool{}
		join.Find(tables, conditions, wanted, func(row join.Row) bool {
			if !instances[row] {
				t.Fatal("no instance", row, tables)
			}
			got[only(row, wanted)] = true
			return true
		})
		if len(got) != len(want) {
			t.Fatalf("%d of %d found in %v with %b", len(got), len(want), tables, wanted)
		}
		switch {
		case len(want) == 0:
			none++
		case len(instances) < 10:
			few++
		default:
			many++
		}
	}
	if none < 2000 || few < 2000 || many < 2000 {
		t.Error(none, few, many)
	}
}

// Find ends when the function returns false, and finds nothing if a table is empty.
func TestFindEnds(t *testing.T) {
	row := func(a, b int) join.Row { return join.Row{a, b} }
	one := join.Table{Vars: 1, Rows: []join.Row{row(1, 0), row(2, 0), row(3, 0)}}
	two := join.Table{Vars: 2, Rows: []join.Row{row(0, 1), row(0, 2)}}
	for limit := 1; limit <= 7; limit++ {
		count := 0
		join.Find([]join.Table{one, two}, nil, 3, func(join.Row) bool { count++; return count < limit })
		if count != min(limit, 6) {
			t.Error(limit, count)
		}
	}
	fail := func(join.Row) bool { t.Error("found"); return true }
	join.Find([]join.Table{one, {Vars: 2}}, nil, 3, fail)
	join.Find([]join.Table{{}}, nil, 0, fail)
	join.Find(nil, []join.Condition{{Fails: func(join.Row) bool { return true }}}, 0, fail)
	count := 0
	join.Find(nil, nil, 0, func(r join.Row) bool { count++; return r == join.Row{} })
	if count != 1 {
		t.Error(count)
	}
}

// Find does not look at choices that make no difference.
func TestFindIsQuick(t *testing.T) {
	column := func(v, n int) join.Table {
		t := join.Table{Vars: 1 << v}
		for i := range n {
			var r join.Row
			r[v] = i + 1
			t.Rows = append(t.Rows, r)
		}
		return t
	}
	pairs := func(a, b, n int, differ bool) join.Table {
		t := join.Table{Vars: 1<<a | 1<<b}
		for i := range n {
			for j := range n {
				var r join.Row
				r[a], r[b] = i+1, j+1
				if !differ || i != j {
					t.Rows = append(t.Rows, r)
				}
			}
		}
		return t
	}
	columns := []join.Table{column(0, 500), column(1, 500), column(2, 500), column(3, 500), column(4, 500)}
	never := join.Condition{Vars: 1<<3 | 1<<4, Fails: func(r join.Row) bool { return r[3]+r[4] < 2000 }}
	chain := []join.Table{pairs(0, 1, 20, false), pairs(1, 2, 20, false), pairs(2, 3, 20, false), pairs(3, 4, 20, false)}
	for i, c := range []struct {
		tables     []join.Table
		conditions []join.Condition
		wanted     join.Set
		want       int
	}{
		{columns, nil, 0, 1}, {columns, nil, 1, 500}, {columns, nil, 1 << 4, 500}, {columns, nil, 3, 250000},
		{columns, []join.Condition{never}, 31, 0}, {append(columns[:4:4], column(4, 1), join.Table{Vars: 1 << 4, Rows: []join.Row{{4: 7}}}), nil, 31, 0},
		{chain, nil, 1 | 1<<4, 400}, {chain, nil, 1 << 2, 20}, {append(chain[:4:4], join.Table{Vars: 1 | 1<<4, Rows: []join.Row{{0: 3, 4: 700}}}), nil, 31, 0},
	} {
		found := map[join.Row]bool{}
		join.Find(c.tables, c.conditions, c.wanted, func(r join.Row) bool {
			found[only(r, c.wanted)] = true
			return true
		})
		if len(found) != c.want {
			t.Error(i, len(found), c.want)
		}
	}
}

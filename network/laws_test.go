package network_test

import (
	"cmp"
	"fmt"
	"math/rand/v2"
	"slices"
	"testing"

	"gameplayer/api"
	"gameplayer/network"
	"gameplayer/sample"
	"gameplayer/term"
)

// relations reports for each gate and each other one whether the first one reads the second one, and whether it depends on it.
func relations(n api.Net) (reads, depends [][]bool) {
	count := len(n.Gates)
	for i, g := range n.Gates {
		reads, depends = append(reads, make([]bool, count)), append(depends, make([]bool, count))
		for _, k := range g.In {
			reads[i][k], depends[i][k] = true, true
		}
		depends[i][i] = true
	}
	for k := range count {
		for i := range count {
			for j := range count {
				depends[i][j] = depends[i][j] || depends[i][k] && depends[k][j]
			}
		}
	}
	return reads, depends
}

// where lists the numbers for which something holds.
func where(count int, holds func(i int) bool) []int {
	var l []int
	for i := range count {
		if holds(i) {
			l = append(l, i)
		}
	}
	return l
}

// level is the level of a gate, by its definition.
func level(n api.Net, gate int) int {
	top := -1
	for _, k := range n.Gates[gate].In {
		top = max(top, level(n, k))
	}
	return top + 1
}

// P20.2 to P20.4, P20.6: the structure of random networks, by its definitions
func TestStructureAgainstDefinitions(t *testing.T) {
	r := rand.New(rand.NewPCG(20, 1))
	deep, wide := 0, 0
	for range 3000 {
		n := sample.AnyNet(r.IntN)
		count := len(n.Gates)
		if e := network.Check(n); e != api.OK {
			t.Fatalf("%+v: %d", n, e)
		}
		reads, depends := relations(n)
		levels, readers, counts := network.Levels(n), network.Readers(n), network.Counts(n)
		total := 0
		for i := range count {
			if cone := network.Cone(n, i); !slices.Equal(cone, where(count, func(k int) bool { return depends[i][k] })) {
				t.Fatalf("%+v: Cone of %d is %v", n, i, cone)
			}
			if got := network.Affected(n, []int{i}); !slices.Equal(got, where(count, func(k int) bool { return depends[k][i] })) {
				t.Fatalf("%+v: Affected of %d is %v", n, i, got)
			}
			if !slices.Equal(readers[i], where(count, func(k int) bool { return reads[k][i] })) || levels[i] != level(n, i) {
				t.Fatalf("%+v: Readers %v, Levels %v", n, readers, levels)
			}
			deep, wide = deep+min(levels[i]/4, 1), wide+min(len(readers[i])/4, 1)
		}
		for kind, got := range counts {
			if want := where(count, func(i int) bool { return n.Gates[i].Kind == kind }); got != len(want) {
				t.Fatalf("%+v: Counts %v", n, counts)
			}
			total += got
		}
		some := []int{r.IntN(count+2) - 1, r.IntN(count+2) - 1, r.IntN(count)}
		if got := network.Affected(n, some); !slices.Equal(got, where(count, func(k int) bool {
			return slices.ContainsFunc(some, func(i int) bool { return i >= 0 && i < count && depends[k][i] })
		})) {
			t.Fatalf("%+v: Affected of %v is %v", n, some, got)
		}
		isRoot := func(i int) bool {
			refers := func(o api.Output) bool { return o.Gate == i }
			return slices.Contains(n.Next, i) || slices.Contains(n.Legal, i) || slices.ContainsFunc(n.Goals, refers) || slices.ContainsFunc(n.Sees, refers) || n.Terminal == i
		}
		if got := network.Roots(n); !slices.Equal(got, where(count, isRoot)) || total != count || len(counts) != 7 || len(levels) != count || len(readers) != count {
			t.Fatalf("%+v: %v, %v, %v, %v", n, got, counts, levels, readers)
		}
	}
	if deep < 500 || wide < 500 {
		t.Error(deep, wide)
	}
}

// P20.6: the cone and what is affected, levels and counts, of a network with gates of all kinds
func TestConeAffectedLevelsCounts(t *testing.T) {
	n := sample.Net(mixed)
	levels, total := network.Levels(n), 0
	for a := range n.Gates {
		for b := range n.Gates {
			if slices.Contains(network.Cone(n, b), a) != slices.Contains(network.Affected(n, []int{a}), b) {
				t.Error(a, b)
			}
		}
		for _, k := range n.Gates[a].In {
			if levels[k] >= levels[a] {
				t.Error(k, a, levels)
			}
		}
	}
	for _, c := range network.Counts(n) {
		total += c
	}
	if total != len(n.Gates) {
		t.Error(total)
	}
}

// strict reports whether a list is ascending.
func strict[T any](l []T, compare func(a, b T) int) bool {
	return slices.IsSortedFunc(l, compare) && len(slices.CompactFunc(slices.Clone(l), func(a, b T) bool { return compare(a, b) == 0 })) == len(l)
}

// checked is the result of Check, condition by condition.
func checked(n api.Net) api.Errno {
	all := func(l []int, count int) bool {
		return !slices.ContainsFunc(l, func(i int) bool { return i < 0 || i >= count })
	}
	if len(n.Gates) > 16384 {
		return api.ErrTooLarge
	}
	for i, g := range n.Gates {
		base, input, constant := g.Kind == api.GateBase, g.Kind == api.GateInput, g.Kind == api.GateFalse || g.Kind == api.GateTrue
		switch {
		case g.Kind < 0 || g.Kind > 6:
			return api.ErrKind
		case base && !all([]int{g.Index}, len(n.Bases)), input && !all([]int{g.Index}, len(n.Inputs)), !base && !input && g.Index != 0:
			return api.ErrRange
		case (base || input || constant) && len(g.In) != 0, g.Kind == api.GateNot && len(g.In) != 1, !base && !input && !constant && len(g.In) == 0:
			return api.ErrInvalid
		case !strict(g.In, cmp.Compare) || !all(g.In, i):
			return api.ErrOrder
		}
	}
	gates := append(slices.Concat(n.Next, n.Legal), n.Terminal)
	roles := []int{}
	fine := len(n.Roles) >= 1 && len(n.Roles) <= 4 && strict(n.Bases, term.Compare) && all(n.Initial, len(n.Bases)) && strict(n.Initial, cmp.Compare) && len(n.Next) == len(n.Bases) && len(n.Legal) == len(n.Inputs)
	for i, x := range n.Roles {
		fine = fine && term.Name(x.Name) && len(x.Args) == 0 && slices.IndexFunc(n.Roles, func(y api.Term) bool { return term.Compare(x, y) == 0 }) == i
	}
	for _, x := range n.Bases {
		fine = fine && term.Ground(x)
	}
	for _, x := range n.Inputs {
		fine, roles = fine && term.Ground(x.Move), append(roles, x.Role)
	}
	for _, o := range n.Goals {
		fine, roles, gates = fine && o.Value >= 0 && o.Value <= 100 && o.Term.Name == "" && len(o.Term.Args) == 0, append(roles, o.Role), append(gates, o.Gate)
	}
	for _, o := range n.Sees {
		fine, roles, gates = fine && o.Value == 0 && term.Ground(o.Term), append(roles, o.Role), append(gates, o.Gate)
	}
	fine = fine && all(roles, len(n.Roles)) && all(gates, len(n.Gates)) &&
		strict(n.Inputs, func(a, b api.Input) int { return cmp.Or(a.Role-b.Role, term.Compare(a.Move, b.Move)) }) &&
		strict(n.Goals, func(a, b api.Output) int { return cmp.Or(a.Role-b.Role, a.Value-b.Value) }) &&
		strict(n.Sees, func(a, b api.Output) int { return cmp.Or(a.Role-b.Role, term.Compare(a.Term, b.Term)) })
	if !fine {
		return api.ErrInvalid
	}
	return api.OK
}

// change changes something about a network, which may remain valid.
func change(r *rand.Rand, n *api.Net) {
	any := func(l []int) *int {
		if len(l) == 0 {
			return new(int)
		}
		return &l[r.IntN(len(l))]
	}
	odd := append(terms("a, 2, f(a), X, f(X), b, x"), nest(5))[r.IntN(8)]
	g := &n.Gates[r.IntN(len(n.Gates))]
	switch r.IntN(16) {
	case 0:
		g.Kind = r.IntN(9) - 1
	case 1:
		g.Index += r.IntN(3) - 1
	case 2:
		*any(g.In) += r.IntN(5) - 2
	case 3:
		g.In = append(slices.Clone(g.In), r.IntN(len(n.Gates)+2)-1)
	case 4:
		g.In = g.In[:len(g.In)/2]
	case 5:
		*any(n.Next) += r.IntN(5) - 2
	case 6:
		*any(n.Legal) += r.IntN(5) - 2
	case 7:
		n.Terminal += r.IntN(5) - 2
	case 8:
		*any(n.Initial) += r.IntN(3) - 1
	case 9:
		n.Roles[r.IntN(len(n.Roles))] = odd
	case 10:
		n.Hidden = !n.Hidden
	default:
		changeOutputs(r, n, odd)
	}
}

// changeOutputs changes something about lists of a network, for which a term is given.
func changeOutputs(r *rand.Rand, n *api.Net, odd api.Term) {
	number := r.IntN(3) - 1
	switch kind := r.IntN(8); {
	case kind == 0 && len(n.Bases) > 0:
		n.Bases[r.IntN(len(n.Bases))] = odd
	case kind == 1 && len(n.Inputs) > 0:
		n.Inputs[r.IntN(len(n.Inputs))].Move = odd
	case kind == 2 && len(n.Inputs) > 0:
		n.Inputs[r.IntN(len(n.Inputs))].Role += number
	case kind == 3 && len(n.Goals) > 0:
		o := &n.Goals[r.IntN(len(n.Goals))]
		o.Role, o.Value = o.Role+r.IntN(3)-1, o.Value+number
	case kind == 4 && len(n.Goals) > 0:
		n.Goals[r.IntN(len(n.Goals))].Gate += number
	case kind == 5 && len(n.Sees) > 0:
		n.Sees[r.IntN(len(n.Sees))].Term = odd
	case kind == 6 && len(n.Sees) > 0:
		o := &n.Sees[r.IntN(len(n.Sees))]
		o.Role, o.Gate = o.Role+r.IntN(3)-1, o.Gate+number
	case kind == 7 && len(n.Sees) > 0:
		n.Sees[r.IntN(len(n.Sees))].Value = number
	}
}

// P20.1, P20.7: changed networks against the definition; those that stay valid and have the same text are equal, and each is the one that its text describes.
func TestChangedNetworks(t *testing.T) {
	r := rand.New(rand.NewPCG(20, 7))
	results := map[api.Errno]int{}
	same := 0
	for range 20000 {
		n := sample.AnyNet(r.IntN)
		before, text := fmt.Sprintf("%+v", n), network.Text(n)
		if got := fmt.Sprintf("%+v", sample.Net(text)); got != before {
			t.Fatalf("%s describes %s, not %s", text, got, before)
		}
		for range 1 + r.IntN(2) {
			change(r, &n)
		}
		e := network.Check(n)
		if want := checked(n); e != want {
			t.Fatalf("Check of %+v is %d, want %d", n, e, want)
		}
		results[e]++
		if changed := network.Text(n); (e == api.OK) != (changed != "") || e == api.OK && (changed == text) != (fmt.Sprintf("%+v", n) == before) {
			t.Fatalf("%+v: %s", n, changed)
		} else if changed == text {
			same++
		}
	}
	for _, e := range []api.Errno{api.OK, api.ErrKind, api.ErrRange, api.ErrInvalid, api.ErrOrder} {
		if results[e] < 200 {
			t.Error(results)
		}
	}
	if same < 200 || results[api.OK] < same+200 {
		t.Error(same, results)
	}
}

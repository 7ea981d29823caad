package delta_test

import (
	"math/rand/v2"
	"slices"
	"testing"

	"gameplayer/api"
	"gameplayer/compile"
	"gameplayer/delta"
	"gameplayer/evaluate"
	"gameplayer/logic"
	"gameplayer/network"
	"gameplayer/reach"
	"gameplayer/sample"
	"gameplayer/simplify"
	"gameplayer/term"
)

// differ lists the positions at which two lists of values differ.
func differ(a, b []bool) []int {
	var l []int
	for i := range a {
		if a[i] != b[i] {
			l = append(l, i)
		}
	}
	return l
}

// readersOf counts the gates that read at least one of some gates.
func readersOf(n api.Net, gates []int) int {
	count := 0
	for _, g := range n.Gates {
		if slices.ContainsFunc(g.In, func(i int) bool { return slices.Contains(gates, i) }) {
			count++
		}
	}
	return count
}

// sources are the gates of the bases and inputs that are in one of two lists of these and not in the other one.
func sources(n api.Net, a, b [2][]int) []int {
	var l []int
	for i, g := range n.Gates {
		for k, kind := range []int{api.GateBase, api.GateInput} {
			if g.Kind == kind && slices.Contains(a[k], g.Index) != slices.Contains(b[k], g.Index) {
				l = append(l, i)
			}
		}
	}
	return l
}

// course is an engine with what it has been given.
type course struct {
	net    api.Net
	engine *delta.Engine
	given  [2][]int
}

// set gives the engine another state and other inputs, and checks all that is promised about that. It returns how many gates changed and the work.
func (c *course) set(t *testing.T, state, inputs []int) (int, int) {
	t.Helper()
	before, given := c.engine.Values(), [2][]int{state, inputs}
	changed, e := c.engine.Set(state, inputs)
	values, want := c.engine.Values(), sample.Values(c.net, state, inputs)
	if fresh, also := evaluate.Values(c.net, state, inputs); e != api.OK || also != api.OK || !slices.Equal(values, want) || !slices.Equal(fresh, want) {
		t.Fatalf("%s, %v: %v, %v, %d, want %v", network.Text(c.net), given, values, fresh, e, want)
	}
	for i, v := range want {
		if c.engine.Value(i) != v {
			t.Fatalf("%s, %v: gate %d is %v", network.Text(c.net), given, i, !v)
		}
	}
	if a, b := c.engine.State(); !slices.Equal(a, state) || !slices.Equal(b, inputs) {
		t.Fatalf("%v, %v, want %v", a, b, given)
	}
	others, work := differ(before, want), c.engine.Work()
	if changed != len(others) || work != readersOf(c.net, others) {
		t.Fatalf("%s, from %v to %v: %d changed, work %d, want %d, %d", network.Text(c.net), c.given, given, changed, work, len(others), readersOf(c.net, others))
	}
	changing := sources(c.net, c.given, given)
	if affected := network.Affected(c.net, changing); work > len(affected)-len(changing) || changed > len(affected) {
		t.Fatalf("%s, from %v to %v: %d changed, work %d, but only %v are affected", network.Text(c.net), c.given, given, changed, work, affected)
	}
	c.given = given
	return changed, work
}

// near changes a little about a list of numbers below a count.
func near(r *rand.Rand, l []int, count int) []int {
	if count == 0 || r.IntN(3) == 0 {
		return l
	}
	number := r.IntN(count)
	if i, found := slices.BinarySearch(l, number); found {
		return slices.Delete(slices.Clone(l), i, i+1)
	} else {
		return slices.Insert(slices.Clone(l), i, number)
	}
}

// P24.1 to P24.6: random courses on random networks, by small steps, by large ones, back, and in place
func TestRandomCourses(t *testing.T) {
	r := rand.New(rand.NewPCG(24, 1))
	changes, works, still := 0, 0, 0
	for range 1500 {
		n := sample.AnyNet(r.IntN)
		x, e := delta.New(n)
		if e != api.OK || x.Work() != 0 || !slices.Equal(x.Values(), sample.Values(n, nil, nil)) {
			t.Fatalf("%s: %v, %d", network.Text(n), x.Values(), e)
		}
		c := &course{net: n, engine: x}
		for range 12 {
			from, state, inputs := c.given, sample.Subset(r.IntN, len(n.Bases)), sample.Subset(r.IntN, len(n.Inputs))
			if r.IntN(2) == 0 {
				state, inputs = near(r, from[0], len(n.Bases)), near(r, from[1], len(n.Inputs))
			}
			changed, work := c.set(t, state, inputs)
			changes, works = changes+changed, works+work
			if r.IntN(3) == 0 {
				if again, more := c.set(t, state, inputs); again != 0 || more != 0 {
					t.Fatalf("%s, %v again: %d, %d", network.Text(n), c.given, again, more)
				}
				still++
			}
			if r.IntN(3) == 0 {
				if back, more := c.set(t, from[0], from[1]); back != changed || more != work {
					t.Fatalf("%s: %d changed, work %d, back to %v: %d, %d", network.Text(n), changed, work, from, back, more)
				}
			}
		}
	}
	if changes < 30000 || works < 20000 || still < 1000 {
		t.Error(changes, works, still)
	}
}

// W2: whatever was set before, the values are those of a new engine.
func TestHistoryDoesNotMatter(t *testing.T) {
	r := rand.New(rand.NewPCG(24, 2))
	for range 500 {
		n := sample.AnyNet(r.IntN)
		old := engine(t, n)
		for range 5 {
			old.Set(sample.Subset(r.IntN, len(n.Bases)), sample.Subset(r.IntN, len(n.Inputs)))
			old.Set([]int{-1}, nil)
		}
		state, inputs := sample.Subset(r.IntN, len(n.Bases)), sample.Subset(r.IntN, len(n.Inputs))
		fresh := engine(t, n)
		old.Set(state, inputs)
		fresh.Set(state, inputs)
		if !slices.Equal(old.Values(), fresh.Values()) {
			t.Fatalf("%s, %v, %v: %v, want %v", network.Text(n), state, inputs, old.Values(), fresh.Values())
		}
	}
}

// inputsOf are the inputs of a joint move, ascending as those of a role come after those of the roles before it.
func inputsOf(n api.Net, joint []api.Term) []int {
	var l []int
	for role, m := range joint {
		l = append(l, slices.IndexFunc(n.Inputs, func(x api.Input) bool { return x.Role == role && term.Compare(x.Move, m) == 0 }))
	}
	return l
}

// stateOf are the bases of a state.
func stateOf(n api.Net, facts []api.Term) []int {
	var l []int
	for _, f := range facts {
		l = append(l, term.Find(n.Bases, f))
	}
	return l
}

// W2: along the joint moves of games the values are those from the beginning, and fewer gates are evaluated than there are.
func TestGames(t *testing.T) {
	r := rand.New(rand.NewPCG(24, 3))
	list := [][]api.Rule{sample.Rules(sample.Lamp), sample.Rules(sample.Coin), sample.Rules(sample.Noughts)}
	for range 15 {
		list = append(list, sample.Any(r.IntN), sample.AnyWalk(r.IntN), sample.AnyDuel(r.IntN, true))
	}
	works, gates, steps := 0, 0, 0
	for _, l := range list {
		g, e := logic.New(l)
		compiled, also := compile.Net(l)
		if e != api.OK || also != api.OK {
			t.Fatal(e, also)
		}
		x, _ := reach.Graph(g, 2)
		for _, n := range []api.Net{compiled, simplify.Net(compiled)} {
			c := &course{net: n, engine: engine(t, n)}
			for _, s := range x.Steps {
				from, to := stateOf(n, x.States[s.From]), stateOf(n, x.States[s.To])
				_, first := c.set(t, from, inputsOf(n, s.Joint))
				var next []int
				for i, gate := range n.Next {
					if c.engine.Value(gate) {
						next = append(next, i)
					}
				}
				if !slices.Equal(next, to) {
					t.Fatalf("%s: %v after %v, %v", network.Text(n), next, from, s.Joint)
				}
				_, second := c.set(t, to, nil)
				works, gates, steps = works+first+second, gates+2*len(n.Gates), steps+1
			}
		}
	}
	if steps < 1000 || works == 0 || works*2 > gates {
		t.Error(steps, works, gates)
	}
}

package latch_test

import (
	"fmt"
	"math/rand/v2"
	"slices"
	"testing"

	"gameplayer/api"
	"gameplayer/compile"
	"gameplayer/evaluate"
	"gameplayer/latch"
	"gameplayer/logic"
	"gameplayer/network"
	"gameplayer/reach"
	"gameplayer/sample"
	"gameplayer/simplify"
	"gameplayer/term"
)

// unknown are as many unknown values.
func unknown(count int) []int { return slices.Repeat([]int{2}, count) }

// following are the values of the Next gates, with all inputs unknown.
func following(n api.Net, bases []int) []int {
	values := sample.Ternary(n, bases, unknown(len(n.Inputs)))
	var next []int
	for _, gate := range n.Next {
		next = append(next, values[gate])
	}
	return next
}

// isClosed reports whether the values that are known stay as they are, by the definition.
func isClosed(n api.Net, bases []int) bool {
	for i, v := range following(n, bases) {
		if bases[i] != 2 && bases[i] != v {
			return false
		}
	}
	return true
}

// with are the bases that have a value.
func with(bases []int, value int) []int {
	var l []int
	for i, v := range bases {
		if v == value {
			l = append(l, i)
		}
	}
	return l
}

// largest are the values of all bases that are in some closed sets of bases that have their initial values. The constant bases are these, since the more is known the more follows.
func largest(n api.Net) []int {
	largest := unknown(len(n.Bases))
	for bits := range 1 << len(n.Bases) {
		bases := unknown(len(n.Bases))
		for i := range bases {
			if bits>>i&1 == 1 {
				bases[i] = map[bool]int{true: 1}[slices.Contains(n.Initial, i)]
			}
		}
		if !isClosed(n, bases) {
			continue
		}
		for i, v := range bases {
			largest[i] = min(largest[i], v)
		}
	}
	return largest
}

// keeping are the bases without a constant value that keep a value, by the definition.
func keeping(n api.Net, constant []int, value int) []int {
	var l []int
	for i, v := range constant {
		bases := slices.Clone(constant)
		bases[i] = value
		if v == 2 && following(n, bases)[i] == value {
			l = append(l, i)
		}
	}
	return l
}

// stateful makes a random network in which many bases depend on their own values.
func stateful(r *rand.Rand) api.Net {
	n := sample.AnyNet(r.IntN)
	for i := range n.Bases {
		if r.IntN(2) == 0 {
			continue
		}
		own := len(n.Gates)
		n.Gates = append(n.Gates, api.Gate{Kind: api.GateBase, Index: i})
		n.Next[i] = own
		if r.IntN(4) > 0 {
			n.Gates = append(n.Gates, api.Gate{Kind: api.GateAnd + r.IntN(2), In: []int{r.IntN(own), own}})
			n.Next[i]++
		}
	}
	return n
}

// examine checks what the functions return for a network against the definitions, and returns the values of the constant bases.
func examine(t *testing.T, n api.Net) []int {
	t.Helper()
	constant := largest(n)
	latches, traps := keeping(n, constant, 1), keeping(n, constant, 0)
	if got, want := found(t, n), fmt.Sprint(with(constant, 1), with(constant, 0), latches, traps); got != want {
		t.Fatalf("%s%s, want %s", network.Text(n), got, want)
	}
	for i, g := range frozen(t, n).Gates {
		if g.Kind == api.GateBase && constant[g.Index] != 2 {
			t.Fatalf("%sFreeze leaves gate %d", network.Text(n), i)
		}
	}
	replaced := sample.Net(network.Text(n))
	for i, g := range n.Gates {
		if g.Kind == api.GateBase && constant[g.Index] != 2 {
			replaced.Gates[i] = api.Gate{Kind: []int{api.GateFalse, api.GateTrue}[constant[g.Index]]}
		}
	}
	if got, want := network.Text(frozen(t, n)), network.Text(simplify.Net(replaced)); got != want {
		t.Fatalf("Freeze of %s: %s, want %s", network.Text(n), got, want)
	}
	return constant
}

// frozen is what Freeze returns, for which there must be no error.
func frozen(t *testing.T, n api.Net) api.Net {
	t.Helper()
	f, e := latch.Freeze(n)
	if e != api.OK || !simplify.Simple(f) {
		t.Fatalf("%s: %d, %s", network.Text(n), e, network.Text(f))
	}
	return f
}

// frame is the text of a network without its gates.
func frame(n api.Net) string {
	f := sample.Net(network.Text(n))
	f.Gates, f.Next, f.Legal, f.Terminal = make([]api.Gate, 1), make([]int, len(f.Next)), make([]int, len(f.Legal)), 0
	for _, l := range [][]api.Output{f.Goals, f.Sees} {
		for i := range l {
			l[i].Gate = 0
		}
	}
	return network.Text(f)
}

// P26.1 to P26.3: random networks against the definitions
func TestRandomNetworks(t *testing.T) {
	r := rand.New(rand.NewPCG(26, 1))
	var constants [3]int
	latches, traps, smaller := 0, 0, 0
	for range 3000 {
		n := stateful(r)
		constant := examine(t, n)
		for _, v := range constant {
			constants[v]++
		}
		latches, traps = latches+len(keeping(n, constant, 1)), traps+len(keeping(n, constant, 0))
		if f := frozen(t, n); len(f.Gates) < len(simplify.Net(n).Gates) {
			smaller++
		}
		if a, b := frame(frozen(t, n)), frame(n); a != b {
			t.Fatalf("%s, want %s", a, b)
		}
	}
	if slices.Min(constants[:]) < 1000 || latches < 500 || traps < 500 || smaller < 1000 {
		t.Error(constants, latches, traps, smaller)
	}
}

// P26.4, P26.5: random sets against the definition, whatever holds initially; what Always and Never return is closed.
func TestRandomSets(t *testing.T) {
	r := rand.New(rand.NewPCG(26, 4))
	counts := map[bool]int{}
	for range 3000 {
		n := stateful(r)
		always, _ := latch.Always(n)
		never, _ := latch.Never(n)
		if !closed(t, n, always, never) {
			t.Fatalf("%s%v, %v", network.Text(n), always, never)
		}
		for range 4 {
			var bases []int
			for range n.Bases {
				bases = append(bases, min(r.IntN(5), 2))
			}
			want := isClosed(n, bases)
			counts[want]++
			for range 2 {
				if closed(t, n, with(bases, 1), with(bases, 0)) != want {
					t.Fatalf("%s%v: %v", network.Text(n), bases, !want)
				}
				n.Initial = sample.Subset(r.IntN, len(n.Bases))
			}
		}
	}
	if counts[true] < 3000 || counts[false] < 3000 {
		t.Error(counts)
	}
}

// course is a network with what latch returns for it.
type course struct {
	net, frozen                   api.Net
	always, never, latches, traps []int
}

func newCourse(t *testing.T, n api.Net) course {
	t.Helper()
	always, a := latch.Always(n)
	never, b := latch.Never(n)
	latches, c := latch.Latches(n)
	traps, d := latch.Traps(n)
	if a != api.OK || b != api.OK || c != api.OK || d != api.OK {
		t.Fatal(a, b, c, d)
	}
	return course{n, frozen(t, n), always, never, latches, traps}
}

// checkState checks what must hold in a state, and what the two networks compute there.
func (c course) checkState(t *testing.T, state, inputs []int) {
	t.Helper()
	for _, base := range c.always {
		if !slices.Contains(state, base) {
			t.Fatalf("%sbase %d does not hold in %v", network.Text(c.net), base, state)
		}
	}
	for _, base := range c.never {
		if slices.Contains(state, base) {
			t.Fatalf("%sbase %d holds in %v", network.Text(c.net), base, state)
		}
	}
	if got, want := sample.Results(c.frozen, state, inputs), sample.Results(c.net, state, inputs); !slices.Equal(got, want) {
		t.Fatalf("%s, %v, %v: %v, want %v", network.Text(c.net), state, inputs, got, want)
	}
}

// checkStep checks that latches and traps stay as they are, and returns how many of them do.
func (c course) checkStep(t *testing.T, from, to []int) int {
	t.Helper()
	kept := 0
	for _, base := range c.latches {
		if slices.Contains(from, base) && !slices.Contains(to, base) {
			t.Fatalf("%sbase %d of %v does not hold in %v", network.Text(c.net), base, from, to)
		} else if slices.Contains(from, base) {
			kept++
		}
	}
	for _, base := range c.traps {
		if !slices.Contains(from, base) && slices.Contains(to, base) {
			t.Fatalf("%sbase %d, not of %v, holds in %v", network.Text(c.net), base, from, to)
		} else if !slices.Contains(from, base) {
			kept++
		}
	}
	return kept
}

// P26.5 to P26.7: states that random sets of inputs lead to
func TestRandomCourses(t *testing.T) {
	r := rand.New(rand.NewPCG(26, 5))
	kept, changed := 0, 0
	for range 2000 {
		c := newCourse(t, stateful(r))
		state := c.net.Initial
		for range 10 {
			inputs := sample.Subset(r.IntN, len(c.net.Inputs))
			c.checkState(t, state, inputs)
			next, e := evaluate.Next(c.net, state, inputs)
			if e != api.OK {
				t.Fatal(e)
			}
			kept += c.checkStep(t, state, next)
			if !slices.Equal(state, next) {
				changed++
			}
			state = next
		}
	}
	if kept < 5000 || changed < 5000 {
		t.Error(kept, changed)
	}
}

// inputsOf are the inputs of a joint move, ascending as those of a role come after those of the roles before it.
func inputsOf(n api.Net, joint []api.Term) []int {
	var l []int
	for role, m := range joint {
		l = append(l, slices.IndexFunc(n.Inputs, func(x api.Input) bool { return x.Role == role && term.Compare(x.Move, m) == 0 }))
	}
	return l
}

// stateOf are the bases of a state.
func stateOf(n api.Net, facts []api.Term) []int {
	var l []int
	for _, f := range facts {
		l = append(l, term.Find(n.Bases, f))
	}
	return l
}

// P26.5 to P26.7: the networks of games, simplified or not, in the states that are reached by their rules
func TestGames(t *testing.T) {
	r := rand.New(rand.NewPCG(26, 7))
	list := [][]api.Rule{sample.Rules(sample.Lamp), sample.Rules(sample.Coin), sample.Rules(sample.Noughts)}
	for range 20 {
		list = append(list, sample.Any(r.IntN), sample.AnyWalk(r.IntN), sample.AnyDuel(r.IntN, true))
	}
	kept, constant := 0, 0
	for _, l := range list {
		g, e := logic.New(l)
		compiled, also := compile.Net(l)
		if e != api.OK || also != api.OK {
			t.Fatal(e, also)
		}
		x, _ := reach.Graph(g, 3)
		for _, n := range []api.Net{compiled, simplify.Net(compiled)} {
			c := newCourse(t, n)
			constant += len(c.always) + len(c.never)
			c.checkState(t, n.Initial, nil)
			for _, s := range x.Steps {
				from, to := stateOf(n, x.States[s.From]), stateOf(n, x.States[s.To])
				c.checkState(t, from, inputsOf(n, s.Joint))
				c.checkState(t, to, nil)
				kept += c.checkStep(t, from, to)
			}
		}
	}
	if kept < 1000 || constant < 50 {
		t.Error(kept, constant)
	}
}

package simplify_test

import (
	"fmt"
	"math/rand/v2"
	"slices"
	"testing"

	"gameplayer/api"
	"gameplayer/compile"
	"gameplayer/logic"
	"gameplayer/network"
	"gameplayer/reach"
	"gameplayer/sample"
	"gameplayer/simplify"
	"gameplayer/term"
)

// folded reports whether a network is as Fold makes it.
func folded(n api.Net) bool {
	for _, g := range n.Gates {
		if g.Kind >= api.GateAnd && g.Kind <= api.GateOr && len(g.In) == 1 {
			return false
		}
		for _, i := range g.In {
			read := n.Gates[i].Kind
			if read == api.GateFalse || read == api.GateTrue || read == api.GateNot && g.Kind == api.GateNot {
				return false
			}
		}
	}
	return true
}

// merged reports whether a network is as Merge makes it.
func merged(n api.Net) bool {
	for i, g := range n.Gates {
		for _, h := range n.Gates[:i] {
			if g.Kind == h.Kind && g.Index == h.Index && slices.Equal(g.In, h.In) {
				return false
			}
		}
	}
	return true
}

// needed are the gates in the cone of a root, ascending.
func needed(n api.Net) []int {
	var l []int
	for _, i := range network.Roots(n) {
		l = append(l, network.Cone(n, i)...)
	}
	slices.Sort(l)
	return slices.Compact(l)
}

// simple reports whether a network is simple.
func simple(n api.Net) bool {
	return network.Check(n) == api.OK && folded(n) && merged(n) && len(needed(n)) == len(n.Gates)
}

// pruned is the text of a network without the gates that are not needed.
func pruned(n api.Net) string {
	rest := needed(n)
	renumber := func(gates ...int) []int {
		var l []int
		for _, i := range gates {
			l = append(l, slices.Index(rest, i))
		}
		return l
	}
	p := sample.Net(network.Text(n))
	p.Gates = nil
	for _, i := range rest {
		g := n.Gates[i]
		p.Gates = append(p.Gates, api.Gate{Kind: g.Kind, Index: g.Index, In: renumber(g.In...)})
	}
	p.Next, p.Legal, p.Terminal = renumber(p.Next...), renumber(p.Legal...), renumber(p.Terminal)[0]
	for _, l := range [][]api.Output{p.Goals, p.Sees} {
		for i, o := range l {
			l[i].Gate = renumber(o.Gate)[0]
		}
	}
	return network.Text(p)
}

// frame is the text of a network without its gates.
func frame(n api.Net) string {
	f := sample.Net(network.Text(n))
	f.Gates, f.Next, f.Legal, f.Terminal = make([]api.Gate, 1), make([]int, len(f.Next)), make([]int, len(f.Legal)), 0
	for _, l := range [][]api.Output{f.Goals, f.Sees} {
		for i := range l {
			l[i].Gate = 0
		}
	}
	return network.Text(f)
}

// subsets calls use for all states with all sets of inputs, or for many of them if there are very many.
func subsets(n api.Net, use func(state, inputs []int)) {
	bases, inputs := len(n.Bases), len(n.Inputs)
	if bases+inputs > 7 {
		r := rand.New(rand.NewPCG(22, uint64(len(n.Gates))))
		for range 40 {
			use(sample.Subset(r.IntN, bases), sample.Subset(r.IntN, inputs))
		}
		return
	}
	for bits := range 1 << (bases + inputs) {
		var l [2][]int
		for i := range bases + inputs {
			if bits>>i&1 == 1 && i < bases {
				l[0] = append(l[0], i)
			} else if bits>>i&1 == 1 {
				l[1] = append(l[1], i-bases)
			}
		}
		use(l[0], l[1])
	}
}

// equals checks that two networks compute the same.
func equals(t *testing.T, got, n api.Net) {
	t.Helper()
	if e := network.Check(got); e != api.OK || len(got.Gates) > len(n.Gates) {
		t.Fatalf("%s: Check %d, %d gates", network.Text(n), e, len(got.Gates))
	}
	if a, b := frame(got), frame(n); a != b {
		t.Fatalf("%s, want %s", a, b)
	}
	subsets(n, func(state, inputs []int) {
		if a, b := sample.Results(got, state, inputs), sample.Results(n, state, inputs); !slices.Equal(a, b) {
			t.Fatalf("%s: %v, %v: %v, want %v; %s", network.Text(n), state, inputs, a, b, network.Text(got))
		}
	})
}

// examine checks everything that is promised about a valid network, and reports whether it is simple.
func examine(t *testing.T, n api.Net) bool {
	t.Helper()
	all := functions()
	names := []string{"Net", "Fold", "Merge", "Prune"}
	promised := []func(n api.Net) bool{simple, folded, merged, func(api.Net) bool { return true }}
	is := simple(n)
	if simplify.Simple(n) != is {
		t.Fatalf("%s: Simple is %v", network.Text(n), !is)
	}
	for i, f := range all {
		got := f(n)
		equals(t, got, n)
		if !promised[i](got) {
			t.Fatalf("%s of %s: %s", names[i], network.Text(n), network.Text(got))
		}
		if is && network.Text(got) != network.Text(n) {
			t.Fatalf("%s of %s, which is simple: %s", names[i], network.Text(n), network.Text(got))
		}
	}
	if got, want := network.Text(simplify.Prune(n)), pruned(n); got != want {
		t.Fatalf("Prune of %s: %s, want %s", network.Text(n), got, want)
	}
	once := simplify.Net(n)
	if !simplify.Simple(once) {
		t.Fatalf("Net of %s is not simple: %s", network.Text(n), network.Text(once))
	}
	for i, f := range all {
		if got, want := network.Text(f(once)), network.Text(once); got != want {
			t.Fatalf("%s of %s: %s", names[i], want, got)
		}
	}
	return is
}

// P22.1 to P22.6: random networks, with few constants or with many
func TestRandomNetworks(t *testing.T) {
	r := rand.New(rand.NewPCG(22, 1))
	simples, smaller, kinds := 0, 0, map[int]int{}
	for i := range 6000 {
		n := sample.AnyNet(r.IntN)
		if i%3 == 0 {
			for k, g := range n.Gates {
				if len(g.In) == 0 && r.IntN(3) == 0 {
					n.Gates[k] = api.Gate{Kind: r.IntN(2)}
				}
			}
		}
		if examine(t, n) {
			simples++
		}
		once := simplify.Net(n)
		smaller += min(len(n.Gates)-len(once.Gates), 1)
		for _, g := range once.Gates {
			kinds[g.Kind]++
		}
	}
	for kind := range api.GateNot + 1 {
		if kinds[kind] < 300 {
			t.Error(kinds)
		}
	}
	if simples < 100 || smaller < 4000 {
		t.Error(simples, smaller)
	}
}

// P22.6: networks that have been made simple stay so when another kind of gate, or another output, is chosen for them as long as they are simple.
func TestChangedNetworks(t *testing.T) {
	r := rand.New(rand.NewPCG(22, 2))
	simples := 0
	for range 3000 {
		n := simplify.Net(sample.AnyNet(r.IntN))
		g := &n.Gates[r.IntN(len(n.Gates))]
		switch {
		case len(g.In) > 1:
			g.Kind = api.GateAnd + api.GateOr - g.Kind
		case len(g.In) == 0:
			g.Kind, g.Index = r.IntN(2), 0
		}
		if r.IntN(2) == 0 {
			n.Terminal = r.IntN(len(n.Gates))
		}
		if examine(t, n) {
			simples++
		}
	}
	if simples < 500 {
		t.Error(simples)
	}
}

// P22.7: the networks of games, in the states that are reached and for the joint moves that are made there
func TestGames(t *testing.T) {
	r := rand.New(rand.NewPCG(22, 3))
	list := [][]api.Rule{sample.Rules(sample.Lamp), sample.Rules(sample.Coin), sample.Rules(sample.Noughts)}
	for range 20 {
		list = append(list, sample.Any(r.IntN), sample.AnyWalk(r.IntN), sample.AnyDuel(r.IntN, true))
	}
	steps := 0
	for _, l := range list {
		g, e := logic.New(l)
		n, also := compile.Net(l)
		if e != api.OK || also != api.OK {
			t.Fatal(e, also)
		}
		all := []api.Net{}
		for _, f := range functions() {
			all = append(all, f(n))
		}
		if !simplify.Simple(all[0]) || len(all[0].Gates) >= len(n.Gates) {
			t.Errorf("%d gates of %d", len(all[0].Gates), len(n.Gates))
		}
		x, _ := reach.Graph(g, 2)
		for _, s := range x.Steps {
			state, inputs := numbers(n, x.States[s.From], s.Joint)
			want := sample.Results(n, state, inputs)
			for i, other := range all {
				if got := sample.Results(other, state, inputs); !slices.Equal(got, want) {
					t.Fatalf("%d: %v, %v: %v, want %v", i, state, inputs, got, want)
				}
			}
		}
		steps += len(x.Steps)
	}
	if steps < 500 {
		t.Error(steps)
	}
}

// numbers are the numbers of the bases of a state and of the inputs of a joint move.
func numbers(n api.Net, state, joint []api.Term) (bases, inputs []int) {
	for _, f := range state {
		bases = append(bases, term.Find(n.Bases, f))
	}
	for role, m := range joint {
		inputs = append(inputs, slices.IndexFunc(n.Inputs, func(x api.Input) bool { return x.Role == role && term.Compare(x.Move, m) == 0 }))
	}
	if slices.Contains(slices.Concat(bases, inputs), -1) {
		panic(fmt.Sprint(state, joint))
	}
	return bases, inputs
}

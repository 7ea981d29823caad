package factor_test

import (
	"fmt"
	"math/rand/v2"
	"slices"
	"testing"

	"gameplayer/api"
	"gameplayer/compile"
	"gameplayer/evaluate"
	"gameplayer/factor"
	"gameplayer/logic"
	"gameplayer/network"
	"gameplayer/reach"
	"gameplayer/sample"
	"gameplayer/simplify"
	"gameplayer/term"
)

// chosen are the numbers below a count whose bits are set: all of them in -1.
func chosen(bits, count int) []int {
	var l []int
	for i := range count {
		if bits>>i&1 == 1 {
			l = append(l, i)
		}
	}
	return l
}

// linkedNodes says for each two nodes whether they are linked, by the definition.
func linkedNodes(n api.Net) [][]bool {
	bases, nodes := len(n.Bases), len(n.Bases)+len(n.Inputs)
	linked := make([][]bool, nodes)
	for i := range linked {
		linked[i] = make([]bool, nodes)
	}
	link := func(from, gate int, inputs bool) {
		for _, i := range network.Cone(n, gate) {
			switch g := n.Gates[i]; {
			case g.Kind == api.GateBase && g.Index != from:
				linked[from][g.Index], linked[g.Index][from] = true, true
			case g.Kind == api.GateInput && inputs:
				linked[from][bases+g.Index], linked[bases+g.Index][from] = true, true
			}
		}
	}
	for i, gate := range n.Next {
		link(i, gate, true)
	}
	for i, gate := range n.Legal {
		link(bases+i, gate, false)
	}
	return linked
}

// connected says for each two nodes whether links connect them.
func connected(n api.Net) [][]bool {
	c := linkedNodes(n)
	for k := range c {
		c[k][k] = true
	}
	for k := range c {
		for i := range c {
			for j := range c {
				c[i][j] = c[i][j] || c[i][k] && c[k][j]
			}
		}
	}
	return c
}

// expected shows the links, the parts with their inputs, and the idle inputs, by the definition.
func expected(n api.Net) string {
	var pairs [][2]int
	linked, c, bases := linkedNodes(n), connected(n), len(n.Bases)
	for i := range linked {
		for j := range i {
			if linked[i][j] {
				pairs = append(pairs, [2]int{j, i})
			}
		}
	}
	slices.SortFunc(pairs, func(a, b [2]int) int { return slices.Compare(a[:], b[:]) })
	text := fmt.Sprint(pairs, " ")
	var idle []int
	for i := range n.Inputs {
		if !slices.Contains(c[bases+i][:bases], true) {
			idle = append(idle, i)
		}
	}
	for i := range bases {
		if slices.Index(c[i], true) < i {
			continue
		}
		var part, inputs []int
		for j, with := range c[i] {
			switch {
			case with && j < bases:
				part = append(part, j)
			case with:
				inputs = append(inputs, j-bases)
			}
		}
		text += fmt.Sprintf("%v%v ", part, inputs)
	}
	return text + fmt.Sprint(idle)
}

// divided makes a random network in which most gates only read gates of the same color, so that it has several parts.
func divided(r *rand.Rand) api.Net {
	n := sample.AnyNet(r.IntN)
	colors := 1 + r.IntN(4)
	shift := r.IntN(100)
	paint := func(node int) int { return node * shift % 7 % colors }
	var painted []int
	for i, g := range n.Gates {
		color := -1 // of constants
		switch {
		case g.Kind == api.GateBase:
			color = paint(g.Index)
		case g.Kind == api.GateInput:
			color = paint(g.Index + 3)
		case len(g.In) > 0:
			color = painted[g.In[len(g.In)-1]]
			if r.IntN(8) > 0 {
				n.Gates[i].In = slices.DeleteFunc(g.In, func(read int) bool { return painted[read] != color })
			}
		}
		painted = append(painted, color)
	}
	choose := func(color int) int {
		gate := r.IntN(len(n.Gates))
		for range 20 {
			if painted[gate] == color {
				break
			}
			gate = r.IntN(len(n.Gates))
		}
		return gate
	}
	for i := range n.Next {
		n.Next[i] = choose(paint(i))
	}
	for i := range n.Legal {
		n.Legal[i] = choose(paint(i + 3))
	}
	return n
}

// P27.1, P27.2, P27.5: random networks against the definitions; each base is in one part, and each input in one part or idle.
func TestRandomNetworks(t *testing.T) {
	r := rand.New(rand.NewPCG(27, 1))
	several, links, idle := 0, 0, 0
	for n := range 3000 {
		net := divided(r)
		if n%3 == 0 {
			net = sample.AnyNet(r.IntN)
		}
		if got, want := fmt.Sprint(factor.Links(net), " ")+parts(t, net), expected(net); got != want {
			t.Fatalf("%s%s, want %s", network.Text(net), got, want)
		}
		l, _ := factor.Parts(net)
		inputs, _ := factor.Idle(net)
		links, idle, several = links+len(factor.Links(net)), idle+len(inputs), several+min(len(l)/3, 1)
		for _, part := range l {
			own, _ := factor.Inputs(net, part)
			inputs = append(inputs, own...)
		}
		slices.Sort(inputs)
		bases := slices.Sorted(slices.Values(slices.Concat(l...)))
		if !slices.Equal(bases, chosen(-1, len(net.Bases))) || !slices.Equal(inputs, chosen(-1, len(net.Inputs))) {
			t.Fatalf("%s%v, %v", network.Text(net), bases, inputs)
		}
	}
	if several < 400 || links < 5000 || idle < 5000 {
		t.Error(several, links, idle)
	}
}

// whole is a network with one of its parts, and the network of that.
type whole struct {
	net, split   api.Net
	part, inputs []int
}

// wholeOf splits a network, and checks what does not depend on states.
func wholeOf(t *testing.T, n api.Net, part []int) whole {
	t.Helper()
	inputs, e := factor.Inputs(n, part)
	split, also := factor.Split(n, part)
	if e != api.OK || also != api.OK || network.Check(split) != api.OK || len(split.Gates) > len(n.Gates)+1 {
		t.Fatalf("%.2000s%v: %d, %d, %d gates", network.Text(n), part, e, also, len(split.Gates))
	}
	if len(split.Goals) > 0 || len(split.Sees) > 0 || split.Hidden || !slices.EqualFunc(split.Roles, n.Roles, same) || len(split.Bases) != len(part) || len(split.Inputs) != len(inputs) {
		t.Fatalf("%.2000s%v: %.2000s", network.Text(n), part, network.Text(split))
	}
	for i, base := range part {
		if !same(split.Bases[i], n.Bases[base]) {
			t.Fatalf("%v: base %d", part, i)
		}
	}
	for i, input := range inputs {
		if split.Inputs[i].Role != n.Inputs[input].Role || !same(split.Inputs[i].Move, n.Inputs[input].Move) {
			t.Fatalf("%v: input %d", part, i)
		}
	}
	w := whole{n, split, part, inputs}
	if initial := positions(part, n.Initial); !slices.Equal(initial, split.Initial) {
		t.Fatalf("%v: Initial %v, want %v", part, split.Initial, initial)
	}
	w.compare(t, nil, nil)
	w.compare(t, n.Initial, chosen(-1, len(n.Inputs)))
	return w
}

func same(a, b api.Term) bool { return term.Compare(a, b) == 0 }

// positions are those of the elements of a list that are in another one.
func positions(l, other []int) []int {
	var found []int
	for i, x := range l {
		if slices.Contains(other, x) {
			found = append(found, i)
		}
	}
	return found
}

// trues are the positions of the gates that are true.
func trues(gates []int, values []bool) []int {
	var l []int
	for i, gate := range gates {
		if values[gate] {
			l = append(l, i)
		}
	}
	return l
}

// compare compares the network of the part with the whole one.
func (w whole) compare(t *testing.T, state, inputs []int) {
	t.Helper()
	own, given := positions(w.part, state), positions(w.inputs, inputs)
	next, e := evaluate.Next(w.split, own, given)
	if want := positions(w.part, trues(w.net.Next, sample.Values(w.net, state, inputs))); !slices.Equal(next, want) || e != api.OK {
		t.Fatalf("%.2000s%v, %v, %v: Next %v, %d, want %v", network.Text(w.net), w.part, state, inputs, next, e, want)
	}
	legal, e := evaluate.Legal(w.split, own)
	if want := positions(w.inputs, trues(w.net.Legal, sample.Values(w.net, state, nil))); !slices.Equal(legal, want) || e != api.OK {
		t.Fatalf("%.2000s%v, %v: Legal %v, %d, want %v", network.Text(w.net), w.part, state, legal, e, want)
	}
	if ends, e := evaluate.Terminal(w.split, own); ends || e != api.OK {
		t.Fatalf("%.2000s%v, %v: terminal, %d", network.Text(w.net), w.part, state, e)
	}
	if got := factor.Project(w.part, state); !slices.Equal(got, own) {
		t.Fatalf("Project(%v, %v) is %v, want %v", w.part, state, got, own)
	}
}

// wholes are all parts of a network.
func wholes(t *testing.T, n api.Net) []whole {
	t.Helper()
	var l []whole
	list, e := factor.Parts(n)
	if e != api.OK {
		t.Fatal(e)
	}
	for _, part := range list {
		l = append(l, wholeOf(t, n, part))
	}
	return l
}

// advance evolves all parts by themselves, and checks that their states make up that of the whole network.
func advance(t *testing.T, l []whole, n api.Net, state, inputs []int) []int {
	t.Helper()
	want, e := evaluate.Next(n, state, inputs)
	if e != api.OK {
		t.Fatal(state, inputs, e)
	}
	var lists, states [][]int
	for _, w := range l {
		w.compare(t, state, inputs)
		next, e := evaluate.Next(w.split, factor.Project(w.part, state), positions(w.inputs, inputs))
		if e != api.OK {
			t.Fatal(e)
		}
		lists, states = append(lists, w.part), append(states, next)
	}
	if got, e := factor.Join(lists, states); !slices.Equal(got, want) || e != api.OK {
		t.Fatalf("%s, %v, %v: %v, %d, want %v", network.Text(n), state, inputs, got, e, want)
	}
	return want
}

// P27.3, P27.6: random networks, along random courses and in random states
func TestRandomCourses(t *testing.T) {
	r := rand.New(rand.NewPCG(27, 3))
	several, moved, inputs := 0, 0, 0
	for range 1500 {
		n := divided(r)
		l := wholes(t, n)
		several += min(len(l)/2, 1)
		for _, w := range l {
			inputs += min(len(w.inputs), 1)
		}
		state := n.Initial
		for range 8 {
			next := advance(t, l, n, state, sample.Subset(r.IntN, len(n.Inputs)))
			if !slices.Equal(next, state) {
				moved++
			}
			state = next
			advance(t, l, n, sample.Subset(r.IntN, len(n.Bases)), sample.Subset(r.IntN, len(n.Inputs)))
		}
	}
	if several < 700 || moved < 3000 || inputs < 1000 {
		t.Error(several, moved, inputs)
	}
}

// P27.6: what holds next in a part, and which of its inputs are legal, does not depend on anything else.
func TestIndependence(t *testing.T) {
	r := rand.New(rand.NewPCG(27, 6))
	changed := 0
	for range 1500 {
		n := divided(r)
		for _, w := range wholes(t, n) {
			var state, inputs []int
			for range 5 {
				others := [2][]int{sample.Subset(r.IntN, len(n.Bases)), sample.Subset(r.IntN, len(n.Inputs))}
				mix := func(own, old, other []int) []int {
					l := slices.DeleteFunc(slices.Clone(other), func(i int) bool { return slices.Contains(own, i) })
					for _, i := range old {
						if slices.Contains(own, i) {
							l = append(l, i)
						}
					}
					slices.Sort(l)
					return l
				}
				mixed, given := mix(w.part, state, others[0]), mix(w.inputs, inputs, others[1])
				a, b := sample.Values(n, state, inputs), sample.Values(n, mixed, given)
				if x, y := positions(w.part, trues(n.Next, a)), positions(w.part, trues(n.Next, b)); !slices.Equal(x, y) {
					t.Fatalf("%s%v: %v after %v, %v, but %v after %v, %v", network.Text(n), w.part, x, state, inputs, y, mixed, given)
				}
				if !slices.Equal(trues(n.Next, a), trues(n.Next, b)) {
					changed++
				}
				state, inputs = others[0], others[1]
			}
		}
	}
	if changed < 1000 {
		t.Error(changed)
	}
}

// P27.4, P27.7: random parts and states of these
func TestJoinAndProject(t *testing.T) {
	r := rand.New(rand.NewPCG(27, 7))
	for range 3000 {
		lists, states := make([][]int, 1+r.IntN(5)), [][]int{}
		for i := range r.IntN(30) {
			k := r.IntN(len(lists) + 1) // some numbers are in no part
			if k < len(lists) {
				lists[k] = append(lists[k], 3*i+r.IntN(3))
			}
		}
		var want []int
		for _, part := range lists {
			s := sample.Subset(r.IntN, len(part))
			for _, position := range s {
				want = append(want, part[position])
			}
			states = append(states, s)
		}
		slices.Sort(want)
		joined, e := factor.Join(lists, states)
		if !slices.Equal(joined, want) || e != api.OK {
			t.Fatalf("Join(%v, %v) is %v, %d, want %v", lists, states, joined, e, want)
		}
		for i, part := range lists {
			if got := factor.Project(part, joined); !slices.Equal(got, states[i]) {
				t.Fatalf("Project(%v, %v) is %v, want %v", part, joined, got, states[i])
			}
		}
	}
}

// lamps is a game with a counter and two lamps, which nothing connects.
const lamps = `role(x). role(y). init(count(0)). init(lit(q)). succ(0,1). succ(1,2). succ(2,3).
legal(x,press(p)). legal(x,press(q)). legal(x,wait). legal(y,wait). legal(y,hide(A)) if true(lit(A)).
next(lit(A)) if does(x,press(A)) and not true(lit(A)).
next(lit(A)) if true(lit(A)) and not does(x,press(A)) and not does(y,hide(A)).
next(count(N)) if true(count(M)) and succ(M,N).
terminal if true(count(3)).
goal(x,100) if true(lit(p)) and true(lit(q)). goal(y,100) if not true(lit(p)).
`

// P27.6: the parts of games, compiled or simplified, in the states that are reached by their rules
func TestGames(t *testing.T) {
	r := rand.New(rand.NewPCG(27, 8))
	list := [][]api.Rule{sample.Rules(lamps), sample.Rules(sample.Lamp), sample.Rules(sample.Coin), sample.Rules(sample.Noughts)}
	for range 15 {
		list = append(list, sample.Any(r.IntN), sample.AnyWalk(r.IntN), sample.AnyDuel(r.IntN, true))
	}
	several, steps := 0, 0
	for _, l := range list {
		g, e := logic.New(l)
		compiled, also := compile.Net(l)
		if e != api.OK || also != api.OK {
			t.Fatal(e, also)
		}
		x, _ := reach.Graph(g, 2)
		for _, n := range []api.Net{compiled, simplify.Net(compiled)} {
			w := wholes(t, n)
			several += min(len(w)/2, 1)
			for _, s := range x.Steps {
				if next := advance(t, w, n, stateOf(n, x.States[s.From]), inputsOf(n, s.Joint)); !slices.Equal(next, stateOf(n, x.States[s.To])) {
					t.Fatal(l, s, next)
				}
				steps++
			}
		}
	}
	if several < 20 || steps < 500 {
		t.Error(several, steps)
	}
}

// inputsOf are the inputs of a joint move, ascending as those of a role come after those of the roles before it.
func inputsOf(n api.Net, joint []api.Term) []int {
	var l []int
	for role, m := range joint {
		l = append(l, slices.IndexFunc(n.Inputs, func(x api.Input) bool { return x.Role == role && same(x.Move, m) }))
	}
	return l
}

// stateOf are the bases of a state.
func stateOf(n api.Net, facts []api.Term) []int {
	var l []int
	for _, f := range facts {
		l = append(l, term.Find(n.Bases, f))
	}
	return l
}

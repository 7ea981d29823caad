package machine_test

import (
	"fmt"
	"slices"
	"testing"

	"gameplayer/api"
	"gameplayer/machine"
	"gameplayer/network"
	"gameplayer/printer"
	"gameplayer/sample"
)

// deep is a game with functions in all its terms.
const deep = `role(x). role(y). init(p(f(a))). init(p(f(b))).
legal(x,g(X,X)) if true(p(X)). legal(y,h(k)). legal(y,h(l)). legal(y,i) if not true(p(f(a))).
next(p(X)) if does(x,g(X,X)). next(q(X,X)) if does(y,h(X)). next(p(f(X))) if does(y,h(X)).
sees(x,s(X,f(X))) if does(y,h(X)). sees(x,s(k,f(k))). sees(y,s(X,f(X))) if does(y,h(X)).
goal(x,50) if true(q(X,X)). terminal if true(q(l,l)).
`

// spoil changes everything in a list and in its spare capacity.
func spoil(l []int) {
	for i := range l[:cap(l)] {
		l[:cap(l)][i] = -9
	}
}

// ask shows everything that a machine returns for a state and a joint move, and spoils it.
func ask(m *machine.Machine, state, joint []int, facts []api.Term) string {
	net := m.Net()
	text := network.Text(net)
	sample.SpoilNet(net)
	show := func(l []api.Term, e api.Errno) {
		text += fmt.Sprint(printer.Terms(l), int(e), "; ")
		sample.Spoil(l)
	}
	list := func(l []int, e api.Errno) {
		text += fmt.Sprint(l, int(e), "; ")
		spoil(l)
	}
	show(m.Roles(), api.OK)
	list(m.Initial(), api.OK)
	list(m.Legal(state, 0))
	list(m.Legal(state, 1))
	list(m.Next(state, joint))
	show(m.Sees(state, joint, 0))
	show(m.Sees(state, joint, 1))
	show(m.Facts(state), api.OK)
	list(m.State(facts))
	show(m.Terms(joint), api.OK)
	show(m.Terms(slices.Concat(joint, joint)), api.OK)
	show([]api.Term{m.Move(0)}, api.OK)
	joints, _ := m.Joints(state)
	for i, j := range joints {
		list(j, api.OK) // what is spoilt already is shown if it is shared
		joints[i] = nil
	}
	return text
}

// P28.1, R5: a machine keeps no reference to its description; arguments are not modified, nor is their spare capacity; results share no memory with them, with the machine or with one another.
func TestMemory(t *testing.T) {
	l := sample.RoomyRules(sample.Rules(deep))
	rules := sample.ShowRules(l)
	m, e := machine.New(l)
	if e != api.OK || sample.ShowRules(l) != rules || sample.SharesNet(m.Net()) {
		t.Fatal("the description has changed, or lists share memory", e)
	}
	sample.SpoilRules(l)
	facts := sample.Roomy(terms("p(f(a)), p(f(b))"))
	state, joint := append(make([]int, 0, 9), m.Initial()...), append(make([]int, 0, 9), 1, 5)
	if got := printer.Terms(m.Terms(joint)) + "; " + printer.Terms(m.Facts(state)); got != "g(f(b),f(b)), h(k); p(f(a)), p(f(b))" {
		t.Fatal(got)
	}
	shown := func() string { return sample.Show(facts) + fmt.Sprint(state, state[:9], joint, joint[:9]) }
	before := shown()
	want := ask(made(t, deep), state, joint, facts)
	for range 3 {
		if got := ask(m, state, joint, facts); got != want {
			t.Errorf("%s, want %s", got, want)
		}
		if shown() != before {
			t.Fatal("arguments have changed")
		}
	}
}

// R6: a machine does not change, whatever is asked.
func TestOrderOfCalls(t *testing.T) {
	m := made(t, deep)
	state, joint := m.Initial(), []int{1, 5}
	want := ask(m, state, joint, nil)
	for _, c := range [][2][]int{{nil, nil}, {{0}, {0, 6}}, {{1}, {1, 4}}, {{0, 1, 2}, {1, 6}}, {{5}, {1, 5}}, {{99}, {0}}, {{1, 0}, {1, 5}}, {{0, 1}, {9, 9}}, {{0, 1}, {0, 5}}} {
		ask(m, c[0], c[1], terms("a"))
		if got := ask(m, state, joint, nil); got != want {
			t.Errorf("after %v: %s, want %s", c, got, want)
		}
	}
}

// R4: empty lists may be nil or not.
func TestEmptyLists(t *testing.T) {
	m := made(t, "role(x). legal(x,a). next(b) if true(b). next(b) if not true(b). sees(x,c).")
	for _, state := range [][]int{nil, {}} {
		for _, joint := range [][]int{nil, {}} {
			fails(t, m, state, joint, 0, api.ErrMove, api.ErrMove)
		}
		next, e := m.Next(state, []int{0})
		sees, f := m.Sees(state, []int{0}, 0)
		if !slices.Equal(next, []int{0}) || e != api.OK || printer.Terms(sees) != "c" || f != api.OK || len(m.Facts(state)) > 0 {
			t.Error(next, e, sees, f)
		}
	}
	for _, l := range [][]api.Term{nil, {}} {
		if state, e := m.State(l); len(state) > 0 || e != api.OK {
			t.Error(state, e)
		}
	}
	if state, e := m.State([]api.Term{{Name: "b", Args: []api.Term{}}}); !slices.Equal(state, []int{0}) || e != api.OK {
		t.Error(state, e)
	}
	if m.Input(0, api.Term{Name: "a", Args: []api.Term{}}) != 0 {
		t.Error("no input")
	}
}

// R1: any values
func TestAnyValues(t *testing.T) {
	far := api.Term{Name: "a"}
	for range 1 << 16 {
		far = api.Term{Name: "f", Args: []api.Term{far}}
	}
	wide := api.Term{Name: "f", Args: slices.Repeat([]api.Term{{Name: "a"}}, 1<<16)}
	odd := []api.Term{{}, {Name: "X"}, {Name: "s", Args: []api.Term{{}}}, {Name: "007"}, {Name: "if"}, {Name: "role", Args: terms("x")}, far, wide}
	m := made(t, several)
	for _, x := range odd {
		for _, y := range odd {
			if m, e := machine.New([]api.Rule{{Head: x, Body: []api.Literal{{Atom: y}, {Not: true, Atom: x}}}}); m != nil || e == api.OK {
				t.Error(x, y)
			}
			if state, e := m.State([]api.Term{x, y}); len(state) > 0 || e != api.ErrState {
				t.Error(state, e)
			}
		}
		for _, role := range []int{0, 1, 2, -1, 1 << 62} {
			if input := m.Input(role, x); input != -1 {
				t.Error(input)
			}
		}
	}
	many := make([]int, 1<<20)
	fails(t, m, many, many, 0, api.ErrState, api.ErrState)
	fails(t, m, nil, many, 0, api.ErrMove, api.ErrMove)
	if l := m.Facts(many); len(l) > 0 || len(m.Terms(many)) != 1<<20 {
		t.Error(len(l))
	}
	if state, e := m.State(make([]api.Term, 1<<20)); len(state) > 0 || e != api.ErrState {
		t.Error(len(state), e)
	}
	if m, e := machine.New(make([]api.Rule, 1<<20)); m != nil || e != api.ErrTooLong {
		t.Error(e)
	}
}

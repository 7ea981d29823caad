package reach_test

import (
	"testing"

	"gameplayer/api"
	"gameplayer/logic"
	"gameplayer/printer"
	"gameplayer/reach"
	"gameplayer/sample"
)

const deep = `role(x). role(y). init(p(f(a))). legal(x,g(X)) if true(p(X)). legal(x,h(k)). legal(y,i(k)).
next(p(f(a))) if does(x,g(X)). next(q(X,X)) if does(x,h(X)).
`

// R5: results are new memory, and no two lists of one share any.
func TestGraphMemory(t *testing.T) {
	g := game(deep)
	const want = "0 p(f(a)); 1 q(k,k) | 0 g(f(a)), i(k) 0 | 0 h(k), i(k) 1 | 1 h(k), i(k) 1 ."
	for range 2 {
		x, _ := reach.Graph(g, 3)
		if show(x) != want {
			t.Fatal(show(x))
		}
		for i, text := range []string{"p(f(a))", "q(k,k)"} {
			if printer.Terms(x.States[i]) != text {
				t.Error(i, printer.Terms(x.States[i]))
			}
			sample.Spoil(x.States[i])
		}
		for i, text := range []string{"g(f(a)), i(k)", "h(k), i(k)", "h(k), i(k)"} {
			if printer.Terms(x.Steps[i].Joint) != text {
				t.Error(i, printer.Terms(x.Steps[i].Joint))
			}
			sample.Spoil(x.Steps[i].Joint)
		}
		for _, l := range [][][]api.Term{nil, joints("h(k),i(k)")} {
			state, _, _ := reach.Play(g, l)
			if printer.Terms(state) != []string{"p(f(a))", "q(k,k)"}[len(l)] {
				t.Error(printer.Terms(state))
			}
			sample.Spoil(state)
		}
	}
}

// R5: arguments are not modified, nor is their spare capacity; results share no memory with them.
func TestArguments(t *testing.T) {
	g := game(deep)
	x, _ := reach.Graph(g, 3)
	x = sample.RoomyGraph(x)
	l := [][]api.Term{sample.Roomy(terms("g(f(a)),i(k)")), sample.Roomy(terms("h(k),i(k)")), sample.Roomy(terms("g(f(a)),i(k)"))}
	state := sample.Roomy(terms("q(k,k)"))
	shown := func() string {
		return sample.ShowGraph(x) + sample.Show(state) + sample.Show(l[0]) + sample.Show(l[1]) + sample.Show(l[2])
	}
	before := shown()
	for range 2 {
		if !reach.Valid(g, x) || reach.Find(x, state) != 1 {
			t.Error("Valid or Find")
		}
		path, ok := reach.Path(x, 1)
		if list(path) != "h(k), i(k)" || !ok {
			t.Error(list(path), ok)
		}
		sample.Spoil(path[0])
		last, n, e := reach.Play(g, l)
		if printer.Terms(last) != "q(k,k)" || n != 2 || e != api.ErrMove {
			t.Error(printer.Terms(last), n, e)
		}
		sample.Spoil(last)
		if shown() != before {
			t.Fatal("arguments have changed")
		}
	}
	path, _ := reach.Path(api.Graph{States: make([][]api.Term, 3), Steps: []api.Step{{From: 0, Joint: l[0], To: 1}, {From: 1, Joint: l[0], To: 2}}}, 2)
	sample.Spoil(path[0])
	if printer.Terms(path[1]) != "g(f(a)), i(k)" {
		t.Error("two lists of a path share memory")
	}
}

// R1: any values
func TestAnyValues(t *testing.T) {
	far := api.Term{Name: "a"}
	for range 1 << 16 {
		far = api.Term{Name: "f", Args: []api.Term{far}}
	}
	odd := [][]api.Term{nil, {{}}, {{Name: "X"}}, {{Name: "1"}}, {{Name: "s", Args: []api.Term{{}}}}, {far}, {far, far}, make([]api.Term, 1<<16)}
	numbers := []int{0, 1, 2, -1, 1<<63 - 1, -1 << 63}
	g := game(walk)
	for _, state := range odd {
		for _, joint := range odd {
			x := api.Graph{States: [][]api.Term{g.Initial(), state}, Depths: []int{0, 1}, Steps: []api.Step{{Joint: joint, To: 1}, {From: 1, Joint: state}}}
			for _, g := range []*logic.Game{nil, {}, g} {
				if reach.Valid(g, x) {
					t.Error(state, joint)
				}
				reach.Play(g, [][]api.Term{joint, state})
			}
			reach.Find(x, joint)
			reach.Path(x, 1)
		}
	}
	for _, from := range numbers {
		for _, to := range numbers {
			x := api.Graph{States: joints("1;2;3"), Depths: []int{0, from, to}, Steps: []api.Step{{From: from, Joint: terms("a"), To: to}, {From: to, Joint: terms("b"), To: from}}}
			reach.Valid(g, x)
			for _, state := range numbers {
				reach.Path(x, state)
			}
		}
	}
	long := api.Graph{States: make([][]api.Term, 1<<17)}
	for i := range 1 << 17 {
		long.Steps = append(long.Steps, api.Step{From: i - 1, To: i})
	}
	if path, ok := reach.Path(long, 1<<17-1); len(path) != 1<<17-1 || !ok || reach.Valid(g, long) {
		t.Error(len(path), ok)
	}
}

// R4: empty lists may be nil or not.
func TestEmptyLists(t *testing.T) {
	g := game("role(x). terminal.")
	for _, x := range []api.Graph{
		{States: [][]api.Term{nil}, Depths: []int{0}, Complete: true},
		{States: [][]api.Term{{}}, Depths: []int{0}, Steps: []api.Step{}, Complete: true},
	} {
		path, ok := reach.Path(x, 0)
		if !reach.Valid(g, x) || reach.Find(x, nil) != 0 || reach.Find(x, []api.Term{}) != 0 || len(path) > 0 || !ok {
			t.Error(x)
		}
	}
	if s, n, e := reach.Play(g, [][]api.Term{}); len(s) > 0 || n != 0 || e != api.OK {
		t.Error(s, n, e)
	}
}

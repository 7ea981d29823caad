package factor_test

import (
	"fmt"
	"slices"
	"strconv"
	"testing"

	"gameplayer/api"
	"gameplayer/factor"
	"gameplayer/network"
	"gameplayer/sample"
)

// roomyLists copies lists of numbers so that all of them have spare capacity.
func roomyLists(l ...[]int) [][]int {
	lists := make([][]int, 0, len(l)+3)
	for _, x := range l {
		lists = append(lists, append(make([]int, 0, len(x)+3), x...))
	}
	return lists
}

// showLists shows lists of numbers with what they have beyond their ends.
func showLists(l [][]int) string {
	text := fmt.Sprint(len(l))
	for _, x := range l[:cap(l)] {
		text += fmt.Sprint(" ", len(x), x[:cap(x)])
	}
	return text
}

// spoil changes everything in a list and in its spare capacity.
func spoil(l []int) {
	for i := range l[:cap(l)] {
		l[:cap(l)][i] = -9
	}
}

// R5: arguments are not modified, nor is their spare capacity; results share no memory with them, and their lists none with one another.
func TestMemory(t *testing.T) {
	n := sample.RoomyNet(sample.Net(mixed))
	part := roomyLists([]int{3, 4})[0]
	lists, states := roomyLists([]int{1, 4, 6}, []int{0, 5}), roomyLists([]int{1, 2}, []int{0})
	shown := func() string {
		return sample.ShowNet(n) + showLists([][]int{part}) + showLists(lists) + showLists(states)
	}
	before := shown()
	var texts []string
	for range 2 {
		links, all := factor.Links(n), parts(t, n)
		p, _ := factor.Split(n, part)
		joined, _ := factor.Join(lists, states)
		projected := factor.Project(lists[0], joined)
		texts = append(texts, fmt.Sprint(links, all, network.Text(p), joined, projected))
		l, _ := factor.Parts(n)
		for i := range l {
			rest := fmt.Sprint(l[i+1:])
			spoil(l[i])
			if fmt.Sprint(l[i+1:]) != rest {
				t.Error("parts share memory")
			}
		}
		inputs, _ := factor.Inputs(n, part)
		idle, _ := factor.Idle(n)
		for _, l := range [][]int{inputs, idle, joined, projected} {
			spoil(l)
		}
		if len(p.Inputs) != 2 || sample.SharesNet(p) {
			t.Error("lists of a network share memory")
		}
		sample.SpoilNet(p)
	}
	if shown() != before {
		t.Error("arguments have changed")
	}
	if texts[0] != texts[1] {
		t.Errorf("%s, then %s", texts[0], texts[1])
	}
	p, _ := factor.Split(n, []int{5})
	want := network.Text(p)
	sample.SpoilNet(n)
	if got := network.Text(p); got != want {
		t.Errorf("%s, want %s", got, want)
	}
}

// R4: empty lists may be nil or not.
func TestEmptyLists(t *testing.T) {
	n := sample.Net("0 base 0\nrole 0 x\nfact 0 a\ninitial\nnext 0 0\nterminal 0\n")
	for range 2 {
		if got := fmt.Sprint(len(factor.Links(n))) + parts(t, n); got != "0[0][] []" {
			t.Error(got)
		}
		wholeOf(t, n, []int{0})
		n.Gates[0].In, n.Roles[0].Args, n.Bases[0].Args, n.Inputs, n.Initial, n.Legal, n.Goals, n.Sees = []int{}, []api.Term{}, []api.Term{}, []api.Input{}, []int{}, []int{}, []api.Output{}, []api.Output{}
	}
	n.Bases, n.Next = []api.Term{}, []int{}
	n.Gates[0].Kind = api.GateTrue
	if got := parts(t, n); got != "[]" {
		t.Error(got)
	}
}

// R1: many gates that read all gates before them, and are all needed
func TestDenseNetwork(t *testing.T) {
	const count = 2000
	n := api.Net{Roles: sample.Terms("x")}
	for i := range count {
		n.Bases = append(n.Bases, api.Term{Name: strconv.Itoa(i)})
		n.Gates = append(n.Gates, api.Gate{Kind: api.GateBase, Index: i})
		n.Next = append(n.Next, count+i)
	}
	all := chosen(-1, 2*count)
	for i := range count {
		n.Gates = append(n.Gates, api.Gate{Kind: api.GateAnd + i%2, In: all[:count+i]})
	}
	if links := factor.Links(n); len(links) != count*(count-1)/2 || links[count] != [2]int{1, 3} {
		t.Error(len(links))
	}
	if l, e := factor.Parts(n); len(l) != 1 || len(l[0]) != count || e != api.OK {
		t.Error(len(l), e)
	}
	wholeOf(t, n, all[:count])
}

// R1: many bases and inputs, each with a part of its own or all in one, and long ways from one to the other
func TestManyNodes(t *testing.T) {
	const count = 5000
	n := api.Net{Roles: sample.Terms("x")}
	for i := range count {
		n.Bases = append(n.Bases, api.Term{Name: strconv.Itoa(i)})
		n.Inputs = append(n.Inputs, api.Input{Move: api.Term{Name: strconv.Itoa(i)}})
		n.Gates = append(n.Gates, api.Gate{Kind: api.GateBase, Index: i}, api.Gate{Kind: api.GateInput, Index: i})
		n.Next = append(n.Next, 2*i+1)
		n.Legal = append(n.Legal, 2*i)
	}
	l, e := factor.Parts(n)
	if e != api.OK || len(l) != count || len(factor.Links(n)) != count {
		t.Error(len(l), e)
	}
	wholeOf(t, n, []int{count - 1})
	for i := range count { // each base is linked with its input, and that with the base before it
		n.Legal[i] = 2 * max(i-1, 0)
	}
	l, e = factor.Parts(n)
	if e != api.OK || len(l) != 1 || !slices.Equal(l[0], chosen(-1, count)) || len(factor.Links(n)) != 2*count-1 {
		t.Error(len(l), e)
	}
	wholeOf(t, n, l[0])
}

// R1: any values
func TestAnyValues(t *testing.T) {
	far := api.Term{Name: "a"}
	for range 1 << 16 {
		far = api.Term{Name: "f", Args: []api.Term{far}}
	}
	numbers := []int{0, 1, -1, 1<<63 - 1, -1 << 63}
	terms := []api.Term{{}, {Name: "X"}, {Name: "f", Args: []api.Term{{}}}, {Name: "f", Args: make([]api.Term, 1<<16)}, far}
	for _, i := range numbers {
		for _, k := range numbers {
			for _, x := range terms {
				n := api.Net{Gates: []api.Gate{{Kind: k, Index: i, In: numbers}, {Kind: i, Index: k, In: []int{i}}}, Roles: []api.Term{x}, Bases: []api.Term{x, x}, Inputs: []api.Input{{Role: i, Move: x}}, Initial: numbers, Next: numbers, Legal: []int{k}, Goals: []api.Output{{Role: i, Value: k, Term: x, Gate: i}}, Sees: []api.Output{{Role: k, Value: i, Term: x, Gate: k}}, Terminal: i}
				if l, e := factor.Parts(n); len(l)+len(factor.Links(n)) > 0 || e != api.ErrInvalid {
					t.Error(l, e)
				}
				if l, e := factor.Idle(n); len(l) > 0 || e != api.ErrInvalid {
					t.Error(l, e)
				}
				noPart(t, n, []int{i, k})
			}
			if i != 0 || k != 1 {
				noPart(t, sample.Net(mixed), []int{i, k})
			}
			factor.Project([]int{i, k, 0}, []int{k, i})
			factor.Project(numbers, []int{k, i})
			factor.Join([][]int{{i}, {k}}, [][]int{{k}, {i}})
			factor.Join([][]int{{i, k}, numbers}, [][]int{{0}, numbers})
		}
	}
	long := make([]int, 1<<20)
	noPart(t, sample.Net(mixed), long)
	if l, e := factor.Join([][]int{long}, [][]int{long}); len(l) > 0 || e != api.ErrInvalid {
		t.Error(len(l), e)
	}
	if l, e := factor.Join(make([][]int, 1<<20), make([][]int, 1<<20)); len(l) > 0 || e != api.OK {
		t.Error(len(l), e)
	}
	factor.Project(long, long)
}

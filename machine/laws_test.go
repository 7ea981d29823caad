package machine_test

import (
	"fmt"
	"math/rand/v2"
	"slices"
	"sync"
	"testing"

	"gameplayer/api"
	"gameplayer/logic"
	"gameplayer/machine"
	"gameplayer/network"
	"gameplayer/printer"
	"gameplayer/reach"
	"gameplayer/sample"
	"gameplayer/term"
)

// plain is a network that is evaluated from the beginning for each question.
type plain struct{ api.Net }

func (p plain) stateError(state []int) api.Errno {
	for i, base := range state {
		if base < 0 || base >= len(p.Bases) || i > 0 && state[i-1] >= base {
			return api.ErrState
		}
	}
	return api.OK
}

func (p plain) terminal(state []int) (bool, api.Errno) {
	if e := p.stateError(state); e != api.OK {
		return false, e
	}
	return sample.Values(p.Net, state, nil)[p.Terminal], api.OK
}

func (p plain) goal(state []int, role int) (int, api.Errno) {
	if e := p.stateError(state); e != api.OK {
		return 0, e
	}
	if role < 0 || role >= len(p.Roles) || p.Roles[role].Name == "chance" {
		return 0, api.ErrRole
	}
	values, found, count := sample.Values(p.Net, state, nil), 0, 0
	for _, o := range p.Goals {
		if o.Role == role && values[o.Gate] {
			found, count = o.Value, count+1
		}
	}
	if count != 1 {
		return 0, api.ErrGoal
	}
	return found, api.OK
}

// moves are the legal moves of a role in a state, however many they are.
func (p plain) moves(state []int, role int) []int {
	values := sample.Values(p.Net, state, nil)
	var l []int
	for i, x := range p.Inputs {
		if x.Role == role && values[p.Net.Legal[i]] {
			l = append(l, i)
		}
	}
	return l
}

func (p plain) legal(state []int, role int) ([]int, api.Errno) {
	if e := p.stateError(state); e != api.OK {
		return nil, e
	}
	if role < 0 || role >= len(p.Roles) {
		return nil, api.ErrRole
	}
	return p.moves(state, role), api.OK
}

// joints counts through all combinations, the move of the last role fastest.
func (p plain) joints(state []int) ([][]int, api.Errno) {
	if ends, e := p.terminal(state); e != api.OK {
		return nil, e
	} else if ends {
		return nil, api.ErrTerminal
	}
	count := 1
	var legal [][]int
	for role := range p.Roles {
		legal = append(legal, p.moves(state, role))
		count *= len(legal[role])
	}
	if count == 0 {
		return nil, api.ErrMove
	}
	var joints [][]int
	for n := range count {
		joint := make([]int, len(legal))
		for i := len(legal) - 1; i >= 0; i-- {
			joint[i] = legal[i][n%len(legal[i])]
			n /= len(legal[i])
		}
		joints = append(joints, joint)
	}
	return joints, api.OK
}

func (p plain) stepError(state, joint []int) api.Errno {
	if ends, e := p.terminal(state); e != api.OK {
		return e
	} else if ends {
		return api.ErrTerminal
	}
	if len(joint) != len(p.Roles) {
		return api.ErrMove
	}
	for role, input := range joint {
		if !slices.Contains(p.moves(state, role), input) {
			return api.ErrMove
		}
	}
	return api.OK
}

func (p plain) next(state, joint []int) ([]int, api.Errno) {
	if e := p.stepError(state, joint); e != api.OK {
		return nil, e
	}
	values := sample.Values(p.Net, state, joint)
	var l []int
	for i, gate := range p.Next {
		if values[gate] {
			l = append(l, i)
		}
	}
	return l, api.OK
}

func (p plain) sees(state, joint []int, role int) ([]api.Term, api.Errno) {
	if e := p.stateError(state); e != api.OK {
		return nil, e
	}
	if role < 0 || role >= len(p.Roles) {
		return nil, api.ErrRole
	}
	if e := p.stepError(state, joint); e != api.OK {
		return nil, e
	}
	values := sample.Values(p.Net, state, joint)
	var l []api.Term
	for _, o := range p.Sees {
		if o.Role == role && values[o.Gate] {
			l = append(l, o.Term)
		}
	}
	return l, api.OK
}

// answer shows results and an error.
func answer(e api.Errno, results ...any) string { return fmt.Sprint(int(e), results, "; ") }

// byMachine shows all that a machine says about a state and a joint move.
func byMachine(m *machine.Machine, state, joint []int) string {
	ends, e := m.Terminal(state)
	text := answer(e, ends)
	joints, e := m.Joints(state)
	text += answer(e, joints)
	next, e := m.Next(state, joint)
	text += answer(e, next)
	for role := -1; role <= len(m.Roles()); role++ {
		value, e := m.Goal(state, role)
		text += answer(e, value)
		legal, e := m.Legal(state, role)
		text += answer(e, legal)
		percepts, e := m.Sees(state, joint, role)
		text += answer(e, printer.Terms(percepts))
	}
	return text
}

// byNetwork shows what the machine should say, by its network.
func byNetwork(p plain, state, joint []int) string {
	ends, e := p.terminal(state)
	text := answer(e, ends)
	joints, e := p.joints(state)
	text += answer(e, joints)
	next, e := p.next(state, joint)
	text += answer(e, next)
	for role := -1; role <= len(p.Roles); role++ {
		value, e := p.goal(state, role)
		text += answer(e, value)
		legal, e := p.legal(state, role)
		text += answer(e, legal)
		percepts, e := p.sees(state, joint, role)
		text += answer(e, printer.Terms(percepts))
	}
	return text
}

// anyState makes a list of bases that is a state for the most part.
func anyState(r *rand.Rand, bases int) []int {
	state := sample.Subset(r.IntN, bases)
	switch r.IntN(20) {
	case 0:
		state = append(state, bases)
	case 1:
		slices.Reverse(state)
	case 2:
		state = append([]int{0}, state...)
	}
	return state
}

// anyJoint makes a list of inputs that is a joint move for the most part.
func anyJoint(r *rand.Rand, p plain, state []int) []int {
	var joint []int
	if p.stateError(state) == api.OK {
		for role := range p.Roles {
			if l := p.moves(state, role); len(l) > 0 {
				joint = append(joint, l[r.IntN(len(l))])
			}
		}
	}
	switch r.IntN(6) {
	case 0:
		return joint[:len(joint)/2]
	case 1:
		return append(joint, 0)
	case 2:
		if len(joint) > 0 {
			joint[r.IntN(len(joint))] = r.IntN(len(p.Inputs)+2) - 1
		}
	}
	return joint
}

// P28.2 to P28.5, W2: whatever was asked before, a machine says what its network gives if that is evaluated from the beginning.
func TestRandomGames(t *testing.T) {
	r := rand.New(rand.NewPCG(28, 2))
	steps, oks := 0, 0
	for range 100 {
		for _, l := range [][]api.Rule{sample.Any(r.IntN), sample.AnyWalk(r.IntN), sample.AnyDuel(r.IntN, r.IntN(2) == 0)} {
			m, e := machine.New(l)
			if e != api.OK {
				t.Fatal(l, e)
			}
			p := plain{m.Net()}
			state := m.Initial()
			for range 20 {
				joint := anyJoint(r, p, state)
				if got, want := byMachine(m, state, joint), byNetwork(p, state, joint); got != want {
					t.Fatalf("%v, %v, %v: %s, want %s", l, state, joint, got, want)
				}
				next, e := m.Next(state, joint)
				steps++
				if e == api.OK {
					oks++
				}
				if state = next; e != api.OK || r.IntN(4) == 0 {
					state = anyState(r, len(p.Bases))
				}
			}
		}
	}
	if oks < steps/5 || oks > steps*4/5 {
		t.Error(steps, oks)
	}
}

// both is a game as a machine and by its rules.
type both struct {
	machine *machine.Machine
	game    *logic.Game
}

func newBoth(t *testing.T, l []api.Rule) both {
	t.Helper()
	m, e := machine.New(l)
	g, also := logic.New(l)
	if e != api.OK || also != api.OK {
		t.Fatal(l, e, also)
	}
	return both{m, g}
}

// translate is a joint move in numbers.
func (b both) translate(joint []api.Term) []int {
	var l []int
	for role, move := range joint {
		l = append(l, b.machine.Input(role, move))
	}
	return l
}

// compareState compares all that does not depend on moves, and returns how many joint moves there are.
func (b both) compareState(t *testing.T, state []api.Term) int {
	t.Helper()
	own, e := b.machine.State(state)
	if e != api.OK || printer.Terms(b.machine.Facts(own)) != printer.Terms(state) {
		t.Fatalf("%v: %v, %d, %v", state, own, e, b.machine.Facts(own))
	}
	ends, e := b.machine.Terminal(own)
	wantEnds, wantError := b.game.Terminal(state)
	if ends != wantEnds || e != wantError {
		t.Fatalf("%v: Terminal %v, %d, want %v, %d", state, ends, e, wantEnds, wantError)
	}
	for role := -1; role <= len(b.game.Roles()); role++ {
		value, e := b.machine.Goal(own, role)
		if want, wantError := b.game.Goal(state, role); value != want || e != wantError {
			t.Fatalf("%v: Goal of %d %d, %d, want %d, %d", state, role, value, e, want, wantError)
		}
		legal, e := b.machine.Legal(own, role)
		want, wantError := b.game.Legal(state, role)
		if term.CompareList(b.machine.Terms(legal), want) != 0 || e != wantError {
			t.Fatalf("%v: Legal of %d %v, %d, want %v, %d", state, role, b.machine.Terms(legal), e, want, wantError)
		}
		for i, move := range want {
			if b.machine.Input(role, move) != legal[i] {
				t.Fatalf("%v: Input of %d, %v", state, role, move)
			}
		}
	}
	joints, e := b.machine.Joints(own)
	want, wantError := b.game.Joints(state)
	if e != wantError || len(joints) != len(want) {
		t.Fatalf("%v: Joints %v, %d, want %v, %d", state, joints, e, want, wantError)
	}
	for i, joint := range joints {
		if term.CompareList(b.machine.Terms(joint), want[i]) != 0 || !slices.Equal(b.translate(want[i]), joint) {
			t.Fatalf("%v: joint move %v, want %v", state, joint, want[i])
		}
		b.compareStep(t, state, want[i])
	}
	return len(joints)
}

// compareStep compares what a list of moves leads to, whether it is a joint move or not.
func (b both) compareStep(t *testing.T, state, joint []api.Term) {
	t.Helper()
	own, _ := b.machine.State(state)
	inputs := b.translate(joint)
	next, e := b.machine.Next(own, inputs)
	want, wantError := b.game.Next(state, joint)
	if e != wantError || printer.Terms(b.machine.Facts(next)) != printer.Terms(want) {
		t.Fatalf("%v, %v: Next %v, %d, want %v, %d", state, joint, b.machine.Facts(next), e, want, wantError)
	}
	for role := -1; role <= len(b.game.Roles()); role++ {
		sees, e := b.machine.Sees(own, inputs, role)
		want, wantError := b.game.Sees(state, joint, role)
		if e != wantError || printer.Terms(sees) != printer.Terms(want) {
			t.Fatalf("%v, %v: Sees of %d %v, %d, want %v, %d", state, joint, role, sees, e, want, wantError)
		}
	}
}

// follow compares a game and its machine in all states to a depth, and returns how many those are and how many joint moves.
func (b both) follow(t *testing.T, r *rand.Rand, depth int) (int, int) {
	t.Helper()
	m, g := b.machine, b.game
	if printer.Terms(m.Roles()) != printer.Terms(g.Roles()) || m.Chance() != g.Chance() || m.Hidden() != g.Hidden() || printer.Terms(m.Facts(m.Initial())) != printer.Terms(g.Initial()) {
		t.Fatal(m.Roles(), m.Chance(), m.Hidden(), m.Initial())
	}
	x, e := reach.Graph(g, depth)
	if e != api.OK {
		return 0, 0
	}
	moves := sample.Terms("a, b, go, 2, f(a), f(b), z")
	joints := 0
	for _, i := range r.Perm(len(x.States)) { // in any order
		joints += b.compareState(t, x.States[i])
		for range 3 {
			var joint []api.Term
			for range r.IntN(5) {
				joint = append(joint, moves[r.IntN(len(moves))])
			}
			b.compareStep(t, x.States[i], joint)
		}
	}
	return len(x.States), joints
}

// P28.7, W1: games agree with their rules in the states that are reached.
func TestAgreement(t *testing.T) {
	r := rand.New(rand.NewPCG(28, 7))
	for _, c := range []struct {
		text          string
		depth, states int
	}{{sample.Lamp, 3, 2}, {sample.Coin, 5, 11}, {sample.Noughts, 2, 82}, {door, 3, 2}, {several, 8, 3}} {
		if states, _ := newBoth(t, sample.Rules(c.text)).follow(t, r, c.depth); states != c.states {
			t.Errorf("%s: %d states, want %d", c.text, states, c.states)
		}
	}
	states, joints := 0, 0
	for range 80 {
		for _, l := range [][]api.Rule{sample.Any(r.IntN), sample.AnyWalk(r.IntN), sample.AnyDuel(r.IntN, r.IntN(2) == 0)} {
			few, moves := newBoth(t, l).follow(t, r, 3)
			states, joints = states+few, joints+moves
		}
	}
	if states < 700 || joints < 2000 {
		t.Error(states, joints)
	}
}

// P28.7: the same errors where there are too many moves
func TestAgreementOfLimits(t *testing.T) {
	for _, counts := range [][]int{{65}, {64}, {1, 65}, {17, 16}, {16, 16}, {65, 0}, {0, 65}, {4, 4, 4, 5}} {
		text := "init(s). "
		for i, n := range counts {
			text += fmt.Sprintf("role(r%d). goal(r%d,%d). ", i, i, n)
			for j := range n {
				text += fmt.Sprintf("legal(r%d,%d). ", i, j)
			}
		}
		b := newBoth(t, sample.Rules(text))
		b.compareState(t, terms("s"))
		b.compareState(t, nil)
	}
}

// R6: a machine does not change, so that several callers may use one at the same time.
func TestManyCallers(t *testing.T) {
	m := made(t, sample.Noughts)
	p := plain{m.Net()}
	var callers sync.WaitGroup
	for caller := range 8 {
		callers.Go(func() {
			r := rand.New(rand.NewPCG(28, uint64(caller)))
			for range 100 {
				state := anyState(r, len(p.Bases))
				joint := anyJoint(r, p, state)
				next, e := m.Next(state, joint)
				if want, wantError := p.next(state, joint); !slices.Equal(next, want) || e != wantError {
					t.Errorf("%v, %v: %v, %d, want %v, %d", state, joint, next, e, want, wantError)
				}
			}
		})
	}
	callers.Wait()
	if got := network.Text(m.Net()); got != network.Text(p.Net) {
		t.Error(got)
	}
}

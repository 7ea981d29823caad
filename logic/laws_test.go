package logic_test

import (
	"math/rand/v2"
	"slices"
	"testing"

	"gameplayer/api"
	"gameplayer/check"
	"gameplayer/logic"
	"gameplayer/printer"
	"gameplayer/prove"
	"gameplayer/relax"
	"gameplayer/sample"
	"gameplayer/term"
)

// simple is a game that asks prove for everything.
type simple struct {
	rules        []api.Rule
	roles, facts []api.Term
	chance       int
}

func newSimple(l []api.Rule) simple {
	atoms, e := relax.Atoms(l)
	if e != api.OK {
		panic(e)
	}
	return simple{l, check.Roles(l), relax.Bases(atoms), check.Chance(l)}
}

// answers are the terms X for which the atom with the relation, the arguments and X as the last one holds.
func (s simple) answers(state, joint []api.Term, relation string, args ...api.Term) []api.Term {
	pattern := api.Term{Name: relation, Args: append(slices.Clone(args), api.Term{Name: "X"})}
	atoms, e := prove.Answers(s.rules, prove.Given(state, joint, s.roles), pattern)
	if e != api.OK {
		panic(e)
	}
	var last []api.Term
	for _, t := range atoms {
		last = append(last, t.Args[len(args)])
	}
	return last
}

func equal(a, b []api.Term) bool { return term.CompareList(a, b) == 0 }

func (s simple) stateError(state []api.Term) api.Errno {
	if !equal(term.Sort(state), state) || slices.ContainsFunc(state, func(f api.Term) bool { return term.Find(s.facts, f) < 0 }) {
		return api.ErrState
	}
	return api.OK
}

func (s simple) terminal(state []api.Term) (bool, api.Errno) {
	if e := s.stateError(state); e != api.OK {
		return false, e
	}
	return prove.Holds(s.rules, prove.Given(state, nil, nil), api.Term{Name: "terminal"})
}

func (s simple) roleError(state []api.Term, role int) api.Errno {
	if e := s.stateError(state); e != api.OK {
		return e
	}
	if role < 0 || role >= len(s.roles) {
		return api.ErrRole
	}
	return api.OK
}

func (s simple) goal(state []api.Term, role int) (int, api.Errno) {
	if e := s.roleError(state, role); e != api.OK {
		return 0, e
	}
	if role == s.chance {
		return 0, api.ErrRole
	}
	var values []int
	for _, t := range s.answers(state, nil, "goal", s.roles[role]) {
		if n, ok := term.Number(term.Text(t)); ok && n <= 100 {
			values = append(values, n)
		}
	}
	if len(values) != 1 {
		return 0, api.ErrGoal
	}
	return values[0], api.OK
}

func (s simple) legal(state []api.Term, role int) ([]api.Term, api.Errno) {
	if e := s.roleError(state, role); e != api.OK {
		return nil, e
	}
	return s.answers(state, nil, "legal", s.roles[role]), api.OK
}

// joints counts through all combinations, the move of the last role fastest.
func (s simple) joints(state []api.Term) ([][]api.Term, api.Errno) {
	ends, e := s.terminal(state)
	if e != api.OK {
		return nil, e
	}
	if ends {
		return nil, api.ErrTerminal
	}
	count := 1
	var legal [][]api.Term
	for _, r := range s.roles {
		legal = append(legal, s.answers(state, nil, "legal", r))
		count *= len(legal[len(legal)-1])
	}
	if count == 0 {
		return nil, api.ErrMove
	}
	var joints [][]api.Term
	for n := range count {
		joint := make([]api.Term, len(legal))
		for i := len(legal) - 1; i >= 0; i-- {
			joint[i] = legal[i][n%len(legal[i])]
			n /= len(legal[i])
		}
		joints = append(joints, joint)
	}
	return joints, api.OK
}

func (s simple) stepError(state, joint []api.Term) api.Errno {
	if ends, e := s.terminal(state); e != api.OK {
		return e
	} else if ends {
		return api.ErrTerminal
	}
	if len(joint) != len(s.roles) {
		return api.ErrMove
	}
	for i, r := range s.roles {
		legal := api.Term{Name: "legal", Args: []api.Term{r, joint[i]}}
		if holds, _ := prove.Holds(s.rules, prove.Given(state, nil, nil), legal); !holds {
			return api.ErrMove
		}
	}
	return api.OK
}

func (s simple) next(state, joint []api.Term) ([]api.Term, api.Errno) {
	if e := s.stepError(state, joint); e != api.OK {
		return nil, e
	}
	return s.answers(state, joint, "next"), api.OK
}

func (s simple) sees(state, joint []api.Term, role int) ([]api.Term, api.Errno) {
	if e := s.roleError(state, role); e != api.OK {
		return nil, e
	}
	if e := s.stepError(state, joint); e != api.OK {
		return nil, e
	}
	return s.answers(state, joint, "sees", s.roles[role]), api.OK
}

// anyState makes a list of facts that is a state for the most part.
func (s simple) anyState(r *rand.Rand) []api.Term {
	state := slices.DeleteFunc(slices.Clone(s.facts), func(api.Term) bool { return r.IntN(2) == 0 })
	switch r.IntN(20) {
	case 0:
		state = append(state, terms("zero")...)
	case 1:
		r.Shuffle(len(state), func(i, j int) { state[i], state[j] = state[j], state[i] })
	case 2:
		state = append(state, state[max(len(state), 1)-1:]...)
	}
	return state
}

// anyJoint makes a list that is a joint move for the most part.
func (s simple) anyJoint(r *rand.Rand, joints [][]api.Term) []api.Term {
	var joint []api.Term
	if len(joints) > 0 {
		joint = slices.Clone(joints[r.IntN(len(joints))])
	}
	moves := terms("a, b, go, 2, f(a), f(b), z")
	switch {
	case r.IntN(3) > 0:
		return joint
	case len(joint) > 0 && r.IntN(2) == 0:
		joint[r.IntN(len(joint))] = moves[r.IntN(len(moves))]
	case len(joint) > 0 && r.IntN(2) == 0:
		return joint[1:]
	}
	return append(joint, moves[r.IntN(len(moves))])
}

// compare compares what holds in a state by a joint move, and returns how much of it there is.
func (s simple) compare(t *testing.T, g *logic.Game, state, joint []api.Term) (percepts, values int) {
	t.Helper()
	at := printer.Terms(state) + "; " + printer.Terms(joint)
	ends, e := g.Terminal(state)
	if want, wantError := s.terminal(state); ends != want || e != wantError || g.Valid(state) != (e == api.OK) {
		t.Fatalf("%v, %s: Terminal is %v, %d", s.rules, at, ends, e)
	}
	for role := -1; role <= len(s.roles); role++ {
		n, e := g.Goal(state, role)
		if want, wantError := s.goal(state, role); n != want || e != wantError {
			t.Fatalf("%v, %s: Goal of %d is %d, %d, want %d, %d", s.rules, at, role, n, e, want, wantError)
		}
		values += min(n, 1)
		legal, e := g.Legal(state, role)
		if want, wantError := s.legal(state, role); !equal(legal, want) || e != wantError {
			t.Fatalf("%v, %s: Legal of %d is %s, %d, want %s, %d", s.rules, at, role, printer.Terms(legal), e, printer.Terms(want), wantError)
		}
		sees, e := g.Sees(state, joint, role)
		if want, wantError := s.sees(state, joint, role); !equal(sees, want) || e != wantError {
			t.Fatalf("%v, %s: Sees of %d is %s, %d, want %s, %d", s.rules, at, role, printer.Terms(sees), e, printer.Terms(want), wantError)
		}
		percepts += min(len(sees), 1)
	}
	next, e := g.Next(state, joint)
	if want, wantError := s.next(state, joint); !equal(next, want) || e != wantError {
		t.Fatalf("%v, %s: Next is %s, %d, want %s, %d", s.rules, at, printer.Terms(next), e, printer.Terms(want), wantError)
	}
	return percepts, values
}

// P17.3 to P17.6, P17.8: comparison with what prove answers
func TestGamesAgainstProve(t *testing.T) {
	r := rand.New(rand.NewPCG(17, 8))
	counts := map[api.Errno]int{}
	steps, percepts, values, several := 0, 0, 0, 0
	for range 200 {
		l := sample.Any(r.IntN)
		if r.IntN(5) == 0 {
			l = sample.AnyWalk(r.IntN)
		}
		s := newSimple(l)
		g, e := logic.New(l)
		if e != api.OK || !equal(g.Roles(), s.roles) || g.Chance() != s.chance || g.Hidden() != check.Hidden(l) || !equal(g.Initial(), s.answers(nil, nil, "init")) {
			t.Fatal(l, e)
		}
		state := g.Initial()
		for range 8 {
			joints, e := g.Joints(state)
			if want, wantError := s.joints(state); !slices.EqualFunc(joints, want, equal) || e != wantError {
				t.Fatalf("%v: Joints(%s) is %s, %d, want %s, %d", l, printer.Terms(state), list(joints), e, list(want), wantError)
			}
			counts[e]++
			several += min(len(joints)/6, 1)
			joint := s.anyJoint(r, joints)
			p, v := s.compare(t, g, state, joint)
			percepts, values = percepts+p, values+v
			if state, e = g.Next(state, joint); e != api.OK || r.IntN(4) == 0 {
				state = s.anyState(r)
			}
			steps += min(len(state), 1)
		}
	}
	if counts[api.OK] < 400 || counts[api.ErrTerminal] < 100 || counts[api.ErrState] < 50 || counts[api.ErrMove] < 50 || steps < 500 || percepts < 200 || values < 300 || several < 100 {
		t.Error(counts, steps, percepts, values, several)
	}
}

// P17.7: what Next returns is a state, the numbers of legal moves determine that of joint moves, and nothing else is a joint move.
func TestNextReturnsStates(t *testing.T) {
	r := rand.New(rand.NewPCG(17, 7))
	nexts, others := 0, 0
	for range 200 {
		l := sample.Any(r.IntN)
		s := newSimple(l)
		g, _ := logic.New(l)
		state := g.Initial()
		for range 4 {
			joints, e := g.Joints(state)
			if e != api.OK {
				break
			}
			count := 1
			for role := range s.roles {
				legal, e := g.Legal(state, role)
				if e != api.OK {
					t.Fatal(l, e)
				}
				count *= len(legal)
			}
			if len(joints) != count || !slices.IsSortedFunc(joints, term.CompareList) || len(slices.CompactFunc(slices.Clone(joints), equal)) != count {
				t.Fatalf("%v: %s are not %d different ones, ascending", l, list(joints), count)
			}
			var reached [][]api.Term
			for _, j := range joints {
				next, e := g.Next(state, j)
				if e != api.OK || !g.Valid(next) {
					t.Fatalf("%v: Next(%s; %s) is %s, %d", l, printer.Terms(state), printer.Terms(j), printer.Terms(next), e)
				}
				reached = append(reached, next)
				nexts++
			}
			for range 10 {
				joint := s.anyJoint(r, joints)
				listed := slices.ContainsFunc(joints, func(j []api.Term) bool { return equal(j, joint) })
				if _, e := g.Next(state, joint); listed != (e == api.OK) || !listed && e != api.ErrMove {
					t.Fatalf("%v: Next(%s; %s) is %d", l, printer.Terms(state), printer.Terms(joint), e)
				}
				others += map[bool]int{false: 1}[listed]
			}
			state = reached[r.IntN(len(reached))]
		}
	}
	if nexts < 1000 || others < 500 {
		t.Error(nexts, others)
	}
}

package compile_test

import (
	"fmt"
	"math/rand/v2"
	"slices"
	"testing"

	"gameplayer/api"
	"gameplayer/check"
	"gameplayer/compile"
	"gameplayer/ground"
	"gameplayer/logic"
	"gameplayer/reach"
	"gameplayer/sample"
	"gameplayer/term"
)

// play is a game with its network.
type play struct {
	game *logic.Game
	net  api.Net
}

func playOf(t *testing.T, l []api.Rule) play {
	t.Helper()
	g, e := logic.New(l)
	if e != api.OK {
		t.Fatal(e)
	}
	net, e := compile.Net(l)
	if e != api.OK {
		t.Fatal(e)
	}
	return play{g, net}
}

// numbers are the bases that are the facts of a state.
func (p play) numbers(state []api.Term) []int {
	var l []int
	for _, f := range state {
		l = append(l, term.Find(p.net.Bases, f))
	}
	return l
}

// inputs are the inputs that are the moves of a joint move.
func (p play) inputs(joint []api.Term) []int {
	var l []int
	for role, m := range joint {
		l = append(l, slices.IndexFunc(p.net.Inputs, func(x api.Input) bool { return x.Role == role && term.Compare(x.Move, m) == 0 }))
	}
	return l
}

// inState shows what holds in a state by the rules, and by the network.
func (p play) inState(state []api.Term) (string, string) {
	var byRules, byNet []string
	values := sample.Values(p.net, p.numbers(state), nil)
	for role, r := range p.game.Roles() {
		legal, _ := p.game.Legal(state, role)
		byRules = append(byRules, "legal")
		for _, m := range legal {
			byRules = append(byRules, term.Text(m))
		}
		byNet = append(byNet, "legal")
		for i, x := range p.net.Inputs {
			if x.Role == role && values[p.net.Legal[i]] {
				byNet = append(byNet, term.Text(x.Move))
			}
		}
		if r.Name == "chance" {
			continue
		}
		value, e := p.game.Goal(state, role)
		byRules = append(byRules, fmt.Sprintf("goal %d %d", value, e))
		byNet = append(byNet, goal(p.net, values, role))
	}
	ends, _ := p.game.Terminal(state)
	return fmt.Sprint(byRules, ends), fmt.Sprint(byNet, values[p.net.Terminal])
}

// goal shows the goal value of a role, or its error.
func goal(net api.Net, values []bool, role int) string {
	var held []int
	for _, o := range net.Goals {
		if o.Role == role && values[o.Gate] {
			held = append(held, o.Value)
		}
	}
	if len(held) != 1 {
		return fmt.Sprintf("goal 0 %d", api.ErrGoal)
	}
	return fmt.Sprintf("goal %d %d", held[0], api.OK)
}

// afterMove shows what a joint move leads to by the rules, and by the network.
func (p play) afterMove(state, joint []api.Term) (string, string) {
	values := sample.Values(p.net, p.numbers(state), p.inputs(joint))
	next, e := p.game.Next(state, joint)
	byRules, byNet := fmt.Sprintf("%d %v", e, p.numbers(next)), []int{}
	for i, gate := range p.net.Next {
		if values[gate] {
			byNet = append(byNet, i)
		}
	}
	text := fmt.Sprintf("%d %v", api.OK, byNet)
	for role := range p.game.Roles() {
		percepts, e := p.game.Sees(state, joint, role)
		byRules += fmt.Sprint(int(e))
		for _, x := range percepts {
			byRules += " " + term.Text(x)
		}
		text += fmt.Sprint(int(api.OK))
		for _, o := range p.net.Sees {
			if o.Role == role && values[o.Gate] {
				text += " " + term.Text(o.Term)
			}
		}
	}
	return byRules, text
}

// follow compares the game with its network in all states to a depth, and returns how many those are, and how many joint moves.
func (p play) follow(t *testing.T, depth int) (int, int) {
	t.Helper()
	if !slices.Equal(p.net.Initial, p.numbers(p.game.Initial())) || p.net.Hidden != p.game.Hidden() {
		t.Fatalf("Initial %v, Hidden %v", p.net.Initial, p.net.Hidden)
	}
	x, e := reach.Graph(p.game, depth)
	if e != api.OK {
		return 0, 0
	}
	for _, s := range x.States {
		if byRules, byNet := p.inState(s); byRules != byNet {
			t.Fatalf("%v: %s, want %s", s, byNet, byRules)
		}
	}
	for _, s := range x.Steps {
		if byRules, byNet := p.afterMove(x.States[s.From], s.Joint); byRules != byNet {
			t.Fatalf("%v, %v: %s, want %s", x.States[s.From], s.Joint, byNet, byRules)
		}
	}
	return len(x.States), len(x.Steps)
}

// P21.5: games agree with their rules in the states that are reached.
func TestGames(t *testing.T) {
	for _, c := range []struct {
		text          string
		depth, states int
	}{{sample.Lamp, 3, 2}, {sample.Coin, 5, 11}, {sample.Noughts, 2, 82}, {recursive, 8, 64}} {
		if states, _ := playOf(t, sample.Rules(c.text)).follow(t, c.depth); states != c.states {
			t.Errorf("%s: %d states, want %d", c.text, states, c.states)
		}
	}
}

// recursive is a game of a token on a board with doors, which may pass through those that are open.
const recursive = `role(x). role(y). init(at(1)). init(open(1,2)). init(open(3,4)).
door(1,2). door(2,3). door(3,4). door(4,2).
way(A,B) if true(open(A,B)).
way(A,C) if way(A,B) and true(open(B,C)).
legal(x,go(B)) if true(at(A)) and way(A,B).
legal(x,stay).
legal(y,turn(A,B)) if door(A,B) and not true(open(B,A)).
next(at(B)) if does(x,go(B)).
next(at(A)) if true(at(A)) and does(x,stay).
next(open(A,B)) if true(open(A,B)) and not does(y,turn(A,B)).
next(open(A,B)) if does(y,turn(A,B)) and not true(open(A,B)).
sees(y,moved) if true(at(A)) and does(x,go(B)) and distinct(A,B).
sees(x,round) if way(A,A).
terminal if true(at(4)).
goal(x,100) if true(at(4)).
goal(x,40) if not true(at(4)).
goal(y,100) if not true(at(4)).
goal(y,N) if true(at(N)).
`

// P21.5: random games
func TestRandomGames(t *testing.T) {
	r := rand.New(rand.NewPCG(21, 6))
	states, steps := 0, 0
	for range 80 {
		for _, l := range [][]api.Rule{sample.Any(r.IntN), sample.AnyWalk(r.IntN), sample.AnyDuel(r.IntN, r.IntN(2) == 0)} {
			p := playOf(t, l)
			few, moves := p.follow(t, 3)
			states, steps = states+few, steps+moves
			g, _ := ground.Rules(l)
			net := compiled(t, g, check.Roles(l), check.Hidden(l))
			agrees(t, g, net, sample.Subset(r.IntN, len(net.Bases)), sample.Subset(r.IntN, len(net.Inputs)))
		}
	}
	if states < 700 || steps < 2000 {
		t.Error(states, steps)
	}
}

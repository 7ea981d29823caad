package compile

import (
	"slices"

	"gameplayer/api"
	"gameplayer/clone"
	"gameplayer/ground"
	"gameplayer/model"
	"gameplayer/term"
)

// compiler makes the network of a ground description without errors.
type compiler struct {
	atoms         []api.Term
	rules         [][]api.GroundRule // of each atom
	first         []int              // the atoms that hold when none are given
	net           api.Net
	never, always int                     // the gates of the constants
	holds         map[int]int             // the gates that say whether atoms hold
	fails         map[int]int             // the gates that say the contrary, as far as there are any
	add           func(gate api.Gate) int // adds a gate and returns its number
}

func newCompiler(g api.Ground, roles []api.Term, hidden bool) *compiler {
	c := &compiler{atoms: g.Atoms, rules: make([][]api.GroundRule, len(g.Atoms)), holds: map[int]int{}, fails: map[int]int{}}
	for _, r := range g.Rules {
		c.rules[r.Head] = append(c.rules[r.Head], r)
	}
	c.first, _ = model.Model(g, nil)
	c.net = api.Net{Roles: clone.Terms(roles), Hidden: hidden}
	c.add = func(gate api.Gate) int {
		c.net.Gates = append(c.net.Gates, gate)
		return len(c.net.Gates) - 1
	}
	c.never = c.add(api.Gate{Kind: api.GateFalse})
	c.always = c.add(api.Gate{Kind: api.GateTrue})
	return c
}

// bases makes the bases and their gates.
func (c *compiler) bases() {
	for i, t := range c.atoms {
		if t.Name != "true" || len(t.Args) != 1 {
			continue
		}
		base := len(c.net.Bases)
		c.holds[i] = c.add(api.Gate{Kind: api.GateBase, Index: base})
		c.net.Bases = append(c.net.Bases, clone.Term(t.Args[0]))
		if slices.Contains(c.first, c.number("init", t.Args[0])) {
			c.net.Initial = append(c.net.Initial, base)
		}
	}
}

// inputs makes the inputs and their gates.
func (c *compiler) inputs() {
	c.each("does", func(role, atom int, move api.Term) {
		c.holds[atom] = c.add(api.Gate{Kind: api.GateInput, Index: len(c.net.Inputs)})
		c.net.Inputs = append(c.net.Inputs, api.Input{Role: role, Move: clone.Term(move)})
	})
}

// each calls use for the atoms of a relation between roles and terms, by the number of the role and then by the term.
func (c *compiler) each(relation string, use func(role, atom int, t api.Term)) {
	for role, r := range c.net.Roles {
		for i, t := range c.atoms {
			if t.Name == relation && len(t.Args) == 2 && term.Compare(t.Args[0], r) == 0 {
				use(role, i, t.Args[1])
			}
		}
	}
}

// group makes the gates of a group, all of whose dependencies outside have theirs. Each round derives at least one more of the atoms that hold, unless it derives them all; so there are as many rounds as atoms.
func (c *compiler) group(group []int) {
	if _, given := c.holds[group[0]]; given {
		return
	}
	for _, i := range group {
		c.holds[i] = c.never
	}
	for range group {
		for _, i := range group {
			c.holds[i] = c.head(i)
		}
	}
}

// head returns a gate for the head of rules, from the gates that atoms have so far.
func (c *compiler) head(atom int) int {
	var bodies []int
	for _, r := range c.rules[atom] {
		bodies = append(bodies, c.body(r))
	}
	return c.join(api.GateOr, bodies, c.never)
}

// body returns a gate for the body of a rule.
func (c *compiler) body(r api.GroundRule) int {
	var literals []int
	for _, i := range r.Pos {
		literals = append(literals, c.holds[i])
	}
	for _, i := range r.Neg {
		literals = append(literals, c.negated(i))
	}
	return c.join(api.GateAnd, literals, c.always)
}

// negated returns the gate that says that an atom does not hold. The atom is of a group before that of the rule (otherwise there were no strata), so that its own gate is final.
func (c *compiler) negated(atom int) int {
	gate, met := c.fails[atom]
	if !met {
		gate = c.add(api.Gate{Kind: api.GateNot, In: []int{c.holds[atom]}})
		c.fails[atom] = gate
	}
	return gate
}

// join returns a gate that reads some gates, or one that does as well: if there is only one to read, that, and if there is none, the given one.
func (c *compiler) join(kind int, in []int, none int) int {
	slices.Sort(in)
	in = slices.Compact(in)
	switch len(in) {
	case 0:
		return none
	case 1:
		return in[0]
	}
	return c.add(api.Gate{Kind: kind, In: in})
}

// outputs makes the outputs, when all atoms have gates.
func (c *compiler) outputs() {
	for _, f := range c.net.Bases {
		c.net.Next = append(c.net.Next, c.output("next", f))
	}
	for _, x := range c.net.Inputs {
		c.net.Legal = append(c.net.Legal, c.output("legal", c.net.Roles[x.Role], x.Move))
	}
	c.each("goal", func(role, atom int, t api.Term) {
		if n, ok := term.Number(t.Name); ok && n <= api.MaxGoal {
			c.net.Goals = append(c.net.Goals, api.Output{Role: role, Value: n, Gate: c.holds[atom]})
		}
	})
	c.each("sees", func(role, atom int, t api.Term) {
		c.net.Sees = append(c.net.Sees, api.Output{Role: role, Term: clone.Term(t), Gate: c.holds[atom]})
	})
	c.net.Terminal = c.output("terminal")
}

// output returns the gate of an atom, which need not be possible.
func (c *compiler) output(relation string, args ...api.Term) int {
	if i := c.number(relation, args...); i >= 0 {
		return c.holds[i]
	}
	return c.never
}

// number returns the number of an atom, or -1.
func (c *compiler) number(relation string, args ...api.Term) int {
	return ground.Find(api.Ground{Atoms: c.atoms}, api.Term{Name: relation, Args: args})
}

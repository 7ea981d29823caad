package machine

import (
	"sync"

	"gameplayer/api"
	"gameplayer/delta"
	"gameplayer/subset"
)

// compiled has the network of a game and the engine that evaluates it. A machine does not embed them itself, since then its callers could change them.
type compiled struct {
	api.Net
	*delta.Engine
	using  sync.Mutex // held while the engine has the state and inputs of one call
	chance int
}

// evaluate returns the values of all gates for a state and inputs, which are valid, so that Set has no error.
func (c *compiled) evaluate(state, inputs []int) []bool {
	c.using.Lock()
	defer c.using.Unlock()
	c.Set(state, inputs)
	return c.Values()
}

// has reports whether there is a role with a number.
func (c *compiled) has(role int) bool { return role >= 0 && role < len(c.Roles) }

// legal returns the inputs that are legal moves of a role.
func (c *compiled) legal(values []bool, role int) []int {
	var moves []int
	for input, x := range c.Inputs {
		if x.Role == role && values[c.Legal[input]] {
			moves = append(moves, input)
		}
	}
	return moves
}

// permits reports whether a list is a joint move, for the values in a state.
func (c *compiled) permits(values []bool, joint []int) bool {
	if len(joint) != len(c.Roles) {
		return false
	}
	for role, input := range joint {
		if input < 0 || input >= len(c.Inputs) || c.Inputs[input].Role != role || !values[c.Legal[input]] {
			return false
		}
	}
	return true
}

// holding returns the outputs of a list that belong to a role and whose gates are true.
func holding(list []api.Output, values []bool, role int) []api.Output {
	var held []api.Output
	for _, o := range list {
		if o.Role == role && values[o.Gate] {
			held = append(held, o)
		}
	}
	return held
}

// stateError returns the error of a state.
func (m *Machine) stateError(state []int) api.Errno {
	switch {
	case !m.returned():
		return api.ErrInvalid
	case !subset.Valid(state, len(m.game.Bases)):
		return api.ErrState
	}
	return api.OK
}

// inState returns the values of all gates in a state, without moves.
func (m *Machine) inState(state []int) ([]bool, api.Errno) {
	if e := m.stateError(state); e != api.OK {
		return nil, e
	}
	return m.game.evaluate(state, nil), api.OK
}

// byJoint returns the values of all gates in a state with a joint move.
func (m *Machine) byJoint(state, joint []int) ([]bool, api.Errno) {
	values, e := m.inState(state)
	switch {
	case e != api.OK:
		return nil, e
	case values[m.game.Terminal]:
		return nil, api.ErrTerminal
	case !m.game.permits(values, joint):
		return nil, api.ErrMove
	}
	return m.game.evaluate(state, joint), api.OK // inputs are numbered role by role, so that a joint move is ascending
}

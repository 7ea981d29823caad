package network

import (
	"cmp"
	"slices"

	"gameplayer/api"
	"gameplayer/subset"
	"gameplayer/term"
)

// Check validates a network.
func Check(net api.Net) api.Errno {
	if len(net.Gates) > api.MaxGates {
		return api.ErrTooLarge
	}
	for i := range net.Gates {
		if e := gateError(net, i); e != api.OK {
			return e
		}
	}
	if !rolesValid(net.Roles) || !factsValid(net) || !movesValid(net) || !outputsValid(net) {
		return api.ErrInvalid
	}
	return api.OK
}

// gateError returns the error of the gate with a number.
func gateError(net api.Net, number int) api.Errno {
	g := net.Gates[number]
	switch {
	case g.Kind < 0 || g.Kind >= kinds:
		return api.ErrKind
	case !below(g.Index, indices(net, g.Kind)):
		return api.ErrRange
	case !readsEnough(g):
		return api.ErrInvalid
	case !subset.Valid(g.In, number):
		return api.ErrOrder
	}
	return api.OK
}

// indices returns the number of values from 0 on that Index may have.
func indices(net api.Net, kind int) int {
	switch kind {
	case api.GateBase:
		return len(net.Bases)
	case api.GateInput:
		return len(net.Inputs)
	}
	return 1
}

// readsEnough reports whether a gate reads as many gates as one of its kind may.
func readsEnough(g api.Gate) bool {
	switch g.Kind {
	case api.GateNot:
		if len(g.In) > 1 {
			return false
		}
		fallthrough // beyond that, it is like the other gates that read some
	case api.GateOr, api.GateAnd:
		return len(g.In) > 0
	}
	return len(g.In) == 0
}

// rolesValid reports whether there is a permitted number of roles, which are different names.
func rolesValid(roles []api.Term) bool {
	if len(roles) < 1 || len(roles) > api.MaxRoles {
		return false
	}
	met := map[string]bool{}
	for _, r := range roles {
		if !term.Name(r.Name) || len(r.Args) > 0 || met[r.Name] {
			return false
		}
		met[r.Name] = true
	}
	return true
}

// factsValid reports whether the lists of bases are valid, except for the gates to which they refer.
func factsValid(net api.Net) bool {
	for _, t := range net.Bases {
		if !term.Ground(t) {
			return false
		}
	}
	return ascend(net.Bases, term.Compare) && subset.Valid(net.Initial, len(net.Bases)) && len(net.Next) == len(net.Bases)
}

// movesValid does the same for the lists of inputs.
func movesValid(net api.Net) bool {
	for _, x := range net.Inputs {
		if !below(x.Role, len(net.Roles)) || !term.Ground(x.Move) {
			return false
		}
	}
	return ascend(net.Inputs, compareInputs) && len(net.Legal) == len(net.Inputs)
}

func compareInputs(a, b api.Input) int {
	return cmp.Or(cmp.Compare(a.Role, b.Role), term.Compare(a.Move, b.Move))
}

// outputsValid reports whether the goal values and percepts are valid, and whether the gates of all outputs exist.
func outputsValid(net api.Net) bool {
	for _, o := range net.Goals {
		if !below(o.Role, len(net.Roles)) || !below(o.Value, api.MaxGoal+1) || o.Term.Name != "" || len(o.Term.Args) > 0 {
			return false
		}
	}
	for _, o := range net.Sees {
		if !below(o.Role, len(net.Roles)) || o.Value != 0 || !term.Ground(o.Term) {
			return false
		}
	}
	missing := func(gate int) bool { return !below(gate, len(net.Gates)) }
	return ascend(net.Goals, compareOutputs) && ascend(net.Sees, compareOutputs) && !slices.ContainsFunc(outputs(net), missing)
}

// compareOutputs compares what the outputs of one kind stand for: all goal values have the zero Term, and all percepts the Value 0.
func compareOutputs(a, b api.Output) int {
	return cmp.Or(cmp.Compare(a.Role, b.Role), cmp.Compare(a.Value, b.Value), term.Compare(a.Term, b.Term))
}

func below(n, count int) bool { return n >= 0 && n < count }

// ascend reports whether a list is ascending.
func ascend[T any](l []T, compare func(a, b T) int) bool {
	for i := 1; i < len(l); i++ {
		if compare(l[i-1], l[i]) >= 0 {
			return false
		}
	}
	return true
}

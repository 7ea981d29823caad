package sample

import (
	"slices"

	"gameplayer/api"
)

// Values returns the values of the gates of a valid network when some of its bases and inputs are given.
func Values(net api.Net, state, inputs []int) []bool {
	var values []bool
	for _, g := range net.Gates {
		trues := 0
		for _, i := range g.In {
			if values[i] {
				trues++
			}
		}
		value := g.Kind == api.GateTrue
		switch g.Kind {
		case api.GateBase:
			value = slices.Contains(state, g.Index)
		case api.GateInput:
			value = slices.Contains(inputs, g.Index)
		case api.GateAnd:
			value = trues == len(g.In)
		case api.GateOr:
			value = trues > 0
		case api.GateNot:
			value = trues == 0
		}
		values = append(values, value)
	}
	return values
}

// Results returns the values that the gates of all outputs have then: those of Next, Legal, Goals, Sees and Terminal.
func Results(net api.Net, state, inputs []int) []bool {
	values := Values(net, state, inputs)
	var results []bool
	for _, gate := range slices.Concat(net.Next, net.Legal) {
		results = append(results, values[gate])
	}
	for _, o := range slices.Concat(net.Goals, net.Sees) {
		results = append(results, values[o.Gate])
	}
	return append(results, values[net.Terminal])
}

// Subset chooses some of the numbers below a count, ascending. The first argument returns a random number below another one.
func Subset(below func(n int) int, count int) []int {
	var l []int
	few := 1 + below(3)
	for i := range count {
		if below(few+1) == 0 {
			l = append(l, i)
		}
	}
	return l
}

// Ternary returns the values of the gates of a valid network in three-valued logic, for values of all bases and inputs.
func Ternary(net api.Net, bases, inputs []int) []int {
	const unknown, most = 1, 2 // between false, which is 0, and true
	levels := map[int]int{api.TernFalse: 0, api.TernTrue: most}
	level := func(value int) int {
		if l, known := levels[value]; known {
			return l
		}
		return unknown
	}
	var ranked, values []int
	for _, g := range net.Gates {
		var read []int
		for _, i := range g.In {
			read = append(read, ranked[i])
		}
		switch g.Kind {
		case api.GateFalse:
			ranked = append(ranked, 0)
		case api.GateTrue:
			ranked = append(ranked, most)
		case api.GateBase:
			ranked = append(ranked, level(bases[g.Index]))
		case api.GateInput:
			ranked = append(ranked, level(inputs[g.Index]))
		case api.GateAnd:
			ranked = append(ranked, slices.Min(read))
		case api.GateOr:
			ranked = append(ranked, slices.Max(read))
		case api.GateNot:
			ranked = append(ranked, most-read[0])
		}
	}
	for _, l := range ranked {
		values = append(values, [...]int{api.TernFalse, api.TernUnknown, api.TernTrue}[l])
	}
	return values
}

package sample

import (
	"slices"

	"gameplayer/api"
)

// Values returns the values of the gates of a valid network when some of its bases and inputs are given.
func Values(net api.Net, state, inputs []int) []bool {
	var values []bool
	for _, g := range net.Gates {
		trues := 0
		for _, i := range g.In {
			if values[i] {
				trues++
			}
		}
		value := g.Kind == api.GateTrue
		switch g.Kind {
		case api.GateBase:
			value = slices.Contains(state, g.Index)
		case api.GateInput:
			value = slices.Contains(inputs, g.Index)
		case api.GateAnd:
			value = trues == len(g.In)
		case api.GateOr:
			value = trues > 0
		case api.GateNot:
			value = trues == 0
		}
		values = append(values, value)
	}
	return values
}

// Results returns the values that the gates of all outputs have then: those of Next, Legal, Goals, Sees and Terminal.
func Results(net api.Net, state, inputs []int) []bool {
	values := Values(net, state, inputs)
	var results []bool
	for _, gate := range slices.Concat(net.Next, net.Legal) {
		results = append(results, values[gate])
	}
	for _, o := range slices.Concat(net.Goals, net.Sees) {
		results = append(results, values[o.Gate])
	}
	return append(results, values[net.Terminal])
}

// Subset chooses some of the numbers below a count, ascending. The first argument returns a random number below another one.
func Subset(below func(n int) int, count int) []int {
	var l []int
	few := 1 + below(3)
	for i := range count {
		if below(few+1) == 0 {
			l = append(l, i)
		}
	}
	return l
}

package sample

import (
	"slices"
	"strconv"
	"strings"

	"gameplayer/api"
	"gameplayer/term"
)

// Switch is the listing of the network of the examples of chapter 20.
const Switch = `0 base 0
1 not 0
2 and 0 1
role 0 x
fact 0 s
move 0 0 a
initial 0
next 0 2
legal 0 0
terminal 1
`

// Net reads a listing of a network (chapter 20, P20.5), valid or not.
func Net(text string) api.Net {
	var net api.Net
	for line := range strings.Lines(text) {
		words := strings.Fields(line)
		switch words[0] {
		case "role":
			net.Roles = append(net.Roles, one(words[2]))
		case "fact":
			net.Bases = append(net.Bases, one(words[2]))
		case "move":
			net.Inputs = append(net.Inputs, api.Input{Role: integer(words[2]), Move: one(words[3])})
		case "initial":
			net.Initial = integers(words[1:])
		case "next":
			net.Next = append(net.Next, integer(words[2]))
		case "legal":
			net.Legal = append(net.Legal, integer(words[2]))
		case "goal":
			net.Goals = append(net.Goals, api.Output{Role: integer(words[1]), Value: integer(words[2]), Gate: integer(words[3])})
		case "sees":
			net.Sees = append(net.Sees, api.Output{Role: integer(words[1]), Term: one(words[2]), Gate: integer(words[3])})
		case "terminal":
			net.Terminal = integer(words[1])
		case "hidden":
			net.Hidden = true
		default:
			net.Gates = append(net.Gates, gate(words[1:]))
		}
	}
	return net
}

// gate reads the kind of a gate and the numbers after it.
func gate(words []string) api.Gate {
	kind := slices.Index([]string{"false", "true", "base", "input", "and", "or", "not"}, words[0])
	switch kind {
	case api.GateBase, api.GateInput:
		return api.Gate{Kind: kind, Index: integer(words[1])}
	}
	return api.Gate{Kind: kind, In: integers(words[1:])}
}

func integers(words []string) []int {
	var l []int
	for _, w := range words {
		l = append(l, integer(w))
	}
	return l
}

func integer(word string) int {
	n, err := strconv.Atoi(word)
	if err != nil {
		panic(word)
	}
	return n
}

func one(text string) api.Term { return Terms(text)[0] }

// AnyNet makes a small valid network. The argument returns a random number below another one.
func AnyNet(below func(n int) int) api.Net {
	net := api.Net{Roles: Terms("x, y, chance, z")[:1+below(4)], Hidden: below(2) == 0}
	net.Bases = some(below, "2, 10, a, b, f(a), f(10), g(a,b)")
	for i := range net.Bases {
		if below(2) > 0 {
			net.Initial = append(net.Initial, i)
		}
	}
	for role := range net.Roles {
		for _, m := range some(below, "1, 10, a, f(b)") {
			net.Inputs = append(net.Inputs, api.Input{Role: role, Move: m})
		}
	}
	for i := range 1 + below(20) {
		net.Gates = append(net.Gates, anyGate(below, i, net))
	}
	anyOutputs(below, &net)
	return net
}

// some chooses some terms of a list and sorts them.
func some(below func(n int) int, text string) []api.Term {
	all := Terms(text)
	return term.Sort(slices.DeleteFunc(all, func(api.Term) bool { return below(2) == 0 }))
}

// anyGate makes the gate with a number.
func anyGate(below func(n int) int, number int, net api.Net) api.Gate {
	for {
		g := api.Gate{Kind: below(api.GateNot + 1)}
		switch {
		case g.Kind == api.GateBase && len(net.Bases) > 0:
			g.Index = below(len(net.Bases))
		case g.Kind == api.GateInput && len(net.Inputs) > 0:
			g.Index = below(len(net.Inputs))
		case g.Kind == api.GateNot && number > 0:
			g.In = []int{below(number)}
		case (g.Kind == api.GateAnd || g.Kind == api.GateOr) && number > 0:
			for range 1 + below(3) {
				g.In = append(g.In, below(number))
			}
			slices.Sort(g.In)
			g.In = slices.Compact(g.In)
		case g.Kind > api.GateTrue || below(4) > 0: // few constants
			continue
		}
		return g
	}
}

// anyOutputs chooses the outputs of a network that has everything else.
func anyOutputs(below func(n int) int, net *api.Net) {
	count := len(net.Gates)
	for range net.Bases {
		net.Next = append(net.Next, below(count))
	}
	for range net.Inputs {
		net.Legal = append(net.Legal, below(count))
	}
	for role := range net.Roles {
		for _, value := range []int{0, 50, api.MaxGoal} {
			if below(2) > 0 {
				net.Goals = append(net.Goals, api.Output{Role: role, Value: value, Gate: below(count)})
			}
		}
		for _, t := range some(below, "2, a, f(a,a)") {
			net.Sees = append(net.Sees, api.Output{Role: role, Term: t, Gate: below(count)})
		}
	}
	net.Terminal = below(count)
}

// RoomyNet copies a network so that all its lists have spare capacity.
func RoomyNet(net api.Net) api.Net {
	copied := api.Net{Gates: roomy(net.Gates), Roles: Roomy(net.Roles), Bases: Roomy(net.Bases), Inputs: roomy(net.Inputs), Initial: roomy(net.Initial),
		Next: roomy(net.Next), Legal: roomy(net.Legal), Goals: roomy(net.Goals), Sees: roomy(net.Sees), Terminal: net.Terminal, Hidden: net.Hidden}
	for i, g := range copied.Gates {
		copied.Gates[i].In = roomy(g.In)
	}
	for i, x := range copied.Inputs {
		copied.Inputs[i].Move = Roomy([]api.Term{x.Move})[0]
	}
	for i, o := range copied.Sees {
		copied.Sees[i].Term = Roomy([]api.Term{o.Term})[0]
	}
	return copied
}

// roomy copies a list with spare capacity for several others.
func roomy[T any](l []T) []T { return append(make([]T, 0, len(l)+20), l...) }

// ShowNet shows a network with what its lists have beyond their ends.
func ShowNet(net api.Net) string {
	text := Show(net.Roles) + Show(net.Bases) + showNumbers(net.Initial) + showNumbers(net.Next) + showNumbers(net.Legal) + showOutputs(net.Goals) + showOutputs(net.Sees)
	text += showNumbers([]int{net.Terminal, len(net.Gates), len(net.Inputs)}) + strconv.FormatBool(net.Hidden)
	for _, g := range net.Gates[:cap(net.Gates)] {
		text += showNumbers([]int{g.Kind, g.Index}) + showNumbers(g.In)
	}
	for _, x := range net.Inputs[:cap(net.Inputs)] {
		text += showNumbers([]int{x.Role}) + Show([]api.Term{x.Move})
	}
	return text
}

// SpoilNet changes everything that the lists of a network and their spare capacity reach.
func SpoilNet(net api.Net) {
	for i, g := range net.Gates[:cap(net.Gates)] {
		spoilNumbers(g.In)
		net.Gates[:cap(net.Gates)][i] = api.Gate{Kind: -9}
	}
	Spoil(net.Roles)
	Spoil(net.Bases)
	for i, x := range net.Inputs[:cap(net.Inputs)] {
		Spoil(x.Move.Args)
		net.Inputs[:cap(net.Inputs)][i] = api.Input{Role: -9}
	}
	for _, l := range [][]int{net.Initial, net.Next, net.Legal} {
		spoilNumbers(l)
	}
	for _, l := range [][]api.Output{net.Goals, net.Sees} {
		for i, o := range l[:cap(l)] {
			Spoil(o.Term.Args)
			l[:cap(l)][i] = api.Output{Role: -9}
		}
	}
}

// SharesNet reports whether two lists of a network share memory.
func SharesNet(net api.Net) bool {
	numbers := [][]int{net.Initial, net.Next, net.Legal}
	for _, g := range net.Gates {
		numbers = append(numbers, g.In)
	}
	terms := [][]api.Term{net.Roles, net.Bases}
	for _, x := range net.Inputs {
		terms = append(terms, x.Move.Args)
	}
	for _, o := range slices.Concat(net.Goals, net.Sees) {
		terms = append(terms, o.Term.Args)
	}
	for i := 0; i < len(terms); i++ { // what is nested is appended
		for _, t := range terms[i] {
			terms = append(terms, t.Args)
		}
	}
	return share(numbers...) || share(terms...) || share(net.Goals, net.Sees)
}

// share reports whether two lists share memory.
func share[T any](lists ...[]T) bool {
	met := map[*T]bool{}
	for _, l := range lists {
		l = l[:cap(l)]
		for i := range l {
			if met[&l[i]] {
				return true
			}
			met[&l[i]] = true
		}
	}
	return false
}

func spoilNumbers(l []int) {
	for i := range l[:cap(l)] {
		l[:cap(l)][i] = -9
	}
}

func showOutputs(l []api.Output) string {
	text := showNumbers([]int{len(l)})
	for _, o := range l[:cap(l)] {
		text += showNumbers([]int{o.Role, o.Value, o.Gate}) + Show([]api.Term{o.Term})
	}
	return text
}

func showNumbers(l []int) string {
	text := strconv.Itoa(len(l)) + ":"
	for _, n := range l[:cap(l)] {
		text += " " + strconv.Itoa(n)
	}
	return text + "; "
}

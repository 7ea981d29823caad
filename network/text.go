package network

import (
	"strconv"

	"gameplayer/api"
	"gameplayer/term"
)

// kindWords are the words of the kinds of gates.
var kindWords = [kinds]string{"false", "true", "base", "input", "and", "or", "not"}

// Text returns a listing of a network.
func Text(net api.Net) string {
	if Check(net) != api.OK {
		return ""
	}
	var l listing
	l.gates(net)
	l.names(net)
	l.outputs(net)
	if net.Hidden {
		l.word("hidden").end()
	}
	return string(l.text)
}

// listing is a text that grows line by line.
type listing struct{ text []byte }

// gates adds the lines of the gates.
func (l *listing) gates(net api.Net) {
	for i, g := range net.Gates {
		l.numbers(i).word(kindWords[g.Kind])
		if g.Kind == api.GateBase || g.Kind == api.GateInput {
			l.numbers(g.Index)
		}
		l.numbers(g.In...).end()
	}
}

// names adds the lines of the roles, bases, inputs and initial bases.
func (l *listing) names(net api.Net) {
	for i, t := range net.Roles {
		l.word("role").numbers(i).word(term.Text(t)).end()
	}
	for i, t := range net.Bases {
		l.word("fact").numbers(i).word(term.Text(t)).end()
	}
	for i, x := range net.Inputs {
		l.word("move").numbers(i, x.Role).word(term.Text(x.Move)).end()
	}
	l.word("initial").numbers(net.Initial...).end()
}

// outputs adds the lines of the outputs.
func (l *listing) outputs(net api.Net) {
	for i, gate := range net.Next {
		l.word("next").numbers(i, gate).end()
	}
	for i, gate := range net.Legal {
		l.word("legal").numbers(i, gate).end()
	}
	for _, o := range net.Goals {
		l.word("goal").numbers(o.Role, o.Value, o.Gate).end()
	}
	for _, o := range net.Sees {
		l.word("sees").numbers(o.Role).word(term.Text(o.Term)).numbers(o.Gate).end()
	}
	l.word("terminal").numbers(net.Terminal).end()
}

// word adds a word to the last line.
func (l *listing) word(s string) *listing {
	l.text = append(append(l.text, s...), ' ')
	return l
}

// numbers adds numbers to the last line.
func (l *listing) numbers(some ...int) *listing {
	for _, n := range some {
		l.text = append(strconv.AppendInt(l.text, int64(n), 10), ' ')
	}
	return l
}

// end ends a line, which has at least one word or number.
func (l *listing) end() { l.text[len(l.text)-1] = '\n' }

package compile_test

import (
	"fmt"
	"strings"
	"testing"

	"gameplayer/api"
	"gameplayer/check"
	"gameplayer/compile"
	"gameplayer/ground"
	"gameplayer/network"
	"gameplayer/relax"
	"gameplayer/sample"
	"gameplayer/term"
)

// compiled is the network of a ground description, which must be valid and have no more gates than it may.
func compiled(t *testing.T, g api.Ground, roles []api.Term, hidden bool) api.Net {
	t.Helper()
	most, e := compile.Gates(g, roles, hidden)
	net, also := compile.Ground(g, roles, hidden)
	if e != api.OK || also != api.OK || network.Check(net) != api.OK || len(net.Gates) > most {
		t.Fatalf("%.999s: %d, %d, Check %d, %d gates, at most %d", fmt.Sprint(g), e, also, network.Check(net), len(net.Gates), most)
	}
	return net
}

// lists shows the lists of a network without the numbers of gates.
func lists(net api.Net) string {
	var words []string
	for _, l := range [][]api.Term{net.Roles, net.Bases} {
		for _, t := range l {
			words = append(words, term.Text(t))
		}
		words = append(words, "/")
	}
	for _, x := range net.Inputs {
		words = append(words, fmt.Sprint(x.Role), term.Text(x.Move))
	}
	words = append(words, fmt.Sprint("/ ", net.Initial, " /"))
	for _, o := range net.Goals {
		words = append(words, fmt.Sprint(o.Role), fmt.Sprint(o.Value))
	}
	words = append(words, "/")
	for _, o := range net.Sees {
		words = append(words, fmt.Sprint(o.Role), term.Text(o.Term))
	}
	return strings.Join(append(words, fmt.Sprint("/ ", net.Hidden)), " ")
}

// P21.3: the lists
func TestLists(t *testing.T) {
	if got := lists(compiled(t, example(), x, false)); got != "x / s / 0 a / [] / / / false" {
		t.Error(got)
	}
	for _, c := range []struct{ atoms, rules, roles, want string }{
		{"", "", "x", "x / / / [] / / / true"},
		{"p, terminal, role(x)", "", "x, y", "x y / / / [] / / / true"},
		{"true(f(a)), true(b), true(10), true(2), true(a,b), true, truth(c)", "", "x", "x / 2 10 b f(a) / / [] / / / true"},
		{"true(a), true(b), true(c), true(d), init(b), init(c), init(d), init(e), init(a,b), next(a), p", "init(b). p. init(c) if p. init(d) if true(d). init(e). init(a,b). next(a).", "x", "x / a b c d / / [1 2] / / / true"},
		{"true(a), true(b), true(c), init(a), init(b), init(c), does(x,m), p", "init(a) if not true(a). init(b) if does(x,m). init(c) if not does(x,m) and not p. p if does(x,m).", "x", "x / a b c / 0 m / [0 2] / / / true"},
		{"does(y,b), does(y,a), does(x,f(10)), does(x,2), does(x,10), does(x,c), does(z,a), does(x), does(x,a,b), does(f(x),a), does(y,10)", "", "y, x", "y x / / 0 10 0 a 0 b 1 2 1 10 1 c 1 f(10) / [] / / / true"},
		{"goal(y,100), goal(x,0), goal(x,100), goal(x,101), goal(x,9), goal(x,a), goal(x,f(1)), goal(x), goal(x,1,2), goal(z,5), goal(f(x),5), goal(y,9999), goal(y,10)", "goal(x,101).", "y, x", "y x / / / [] / 0 10 0 100 1 0 1 9 1 100 / / true"},
		{"sees(y,p), sees(x,f(a)), sees(x,10), sees(x,2), sees(x,a), sees(y,2), sees(x), sees(x,a,b), sees(z,a), sees(f(y),a), seen(x,b)", "sees(x,a).", "y, x", "y x / / / [] / / 0 2 0 p 1 2 1 10 1 a 1 f(a) / true"},
		{"goal(chance,5), does(chance,go), sees(chance,b), legal(chance,stay)", "", "a, chance", "a chance / / 1 go / [] / 1 5 / 1 b / true"},
	} {
		if got := lists(compiled(t, sample.Ground(c.atoms, c.rules), sample.Terms(c.roles), true)); got != c.want {
			t.Errorf("%s; %s:\n%s, want\n%s", c.atoms, c.rules, got, c.want)
		}
	}
}

// trues are the outputs that are true, as atoms, when bases and inputs are given.
func trues(net api.Net, state, inputs []int) string {
	values := sample.Values(net, state, inputs)
	text := ""
	add := func(gate int, words ...string) {
		if values[gate] {
			text += strings.Join(words, " ") + "; "
		}
	}
	for i, f := range net.Bases {
		add(net.Next[i], "next", term.Text(f))
	}
	for i, x := range net.Inputs {
		add(net.Legal[i], "legal", net.Roles[x.Role].Name, term.Text(x.Move))
	}
	for _, o := range net.Goals {
		add(o.Gate, "goal", net.Roles[o.Role].Name, fmt.Sprint(o.Value))
	}
	for _, o := range net.Sees {
		add(o.Gate, "sees", net.Roles[o.Role].Name, term.Text(o.Term))
	}
	add(net.Terminal, "terminal")
	return text
}

// P21.3: what is computed in the example
func TestExample(t *testing.T) {
	net := compiled(t, example(), x, false)
	for _, c := range []struct {
		state, inputs []int
		want          string
	}{
		{nil, nil, "terminal; "}, {nil, []int{0}, "terminal; "}, {[]int{0}, nil, "legal x a; "}, {[]int{0}, []int{0}, "next s; legal x a; "},
	} {
		if got := trues(net, c.state, c.inputs); got != c.want {
			t.Errorf("%v, %v: %s, want %s", c.state, c.inputs, got, c.want)
		}
	}
}

// P21.3: what is computed for descriptions with the bases a and b and the input x m
func TestOutputs(t *testing.T) {
	given := [][2][]int{{nil, nil}, {{0}, nil}, {{1}, nil}, {{0, 1}, nil}, {nil, {0}}, {{0}, {0}}, {{1}, {0}}, {{0, 1}, {0}}}
	for _, c := range []struct {
		atoms, rules string
		want         string // whether an output is true for each of the above
	}{
		{"next(a)", "", "00000000"},
		{"t", "", "00000000"},
		{"next(a)", "next(a).", "11111111"},
		{"next(a)", "next(a) if true(a).", "01010101"},
		{"next(a)", "next(a) if not true(a).", "10101010"},
		{"next(a)", "next(a) if true(a) and true(b).", "00010001"},
		{"next(a)", "next(a) if true(a). next(a) if true(b).", "01110111"},
		{"next(a)", "next(a) if true(a) and not true(b). next(a) if does(x,m) and not true(a).", "01001110"},
		{"next(a)", "next(a) if true(a) and not true(a).", "00000000"},
		{"next(a)", "next(a) if next(a) and true(a).", "00000000"},
		{"next(a)", "next(a) if true(a). next(a) if next(a).", "01010101"},
		{"legal(x,m)", "legal(x,m) if does(x,m).", "00001111"},
		{"legal(x,m)", "legal(x,m) if not does(x,m) and true(b).", "00110000"},
		{"terminal", "terminal if not does(x,m).", "11110000"},
		{"terminal", "terminal if does(y,m).", "00000000"},
		{"terminal", "terminal if not does(y,m).", "11111111"},
		{"terminal", "terminal if true(a,b).", "00000000"},
		{"terminal", "terminal if p and q. p if true(a). q if true(b) and not does(x,m).", "00010000"},
		{"terminal", "terminal if not p. p if not q. q if true(a).", "01010101"},
		{"terminal", "terminal if p and not q. p if true(b). q if does(x,m). p if q.", "00110000"},
		{"goal(x,5)", "goal(x,5) if p. p if q. q if p. q if true(a) and does(x,m).", "00000101"},
		{"goal(x,5)", "goal(x,5) if p. p if q. q if p.", "00000000"},
		{"goal(x,5)", "goal(x,5) if not p. p if q. q if r. r if p. r if true(b). q if true(a).", "10001000"},
		{"goal(x,5)", "goal(x,5) if p. p if q and r. q if r. r if q. r if true(b). q if p. p if true(a).", "01110111"},
		{"sees(x,5)", "sees(x,5) if s. s if r. r if q. q if p. p if s. p if true(a). s if does(x,m).", "01011111"},
		{"sees(x,5)", "sees(x,5) if p. p if q. q if r. r if s. s if p. s if true(a) and does(x,m).", "00000101"},
		{"sees(x,5)", "sees(x,5) if s. s if r. r if q. q if p. p if s. p if true(a) and does(x,m).", "00000101"},
		{"sees(x,5)", "sees(x,5) if init(a). init(a) if true(b).", "00110011"},
	} {
		g := sample.Ground(c.atoms+", p, q, r, s, true(a), true(b), true(a,b), init(a), next(b), does(x,m), does(y,m)", c.rules)
		net := compiled(t, g, x, false)
		got := ""
		for _, l := range given {
			got += fmt.Sprint(min(len(trues(net, l[0], l[1])), 1))
		}
		if got != c.want {
			t.Errorf("%s; %s: %s, want %s", c.atoms, c.rules, got, c.want)
		}
	}
}

// P21.3: rules for atoms that are not possible are not needed, and their outputs are false.
func TestMissingAtoms(t *testing.T) {
	net := compiled(t, sample.Ground("true(a), true(b), next(b), does(x,m), does(x,n), does(y,m), legal(x,n), legal(y,n)", "next(b). legal(x,n). legal(y,n)."), sample.Terms("x, y"), true)
	for _, state := range [][]int{nil, {0, 1}} {
		if got := trues(net, state, []int{0, 2}); got != "next b; legal x n; " {
			t.Error(got)
		}
	}
}

// wide is a description of so many atoms that depend on one another.
func wide(count int) string {
	text := "role(x). legal(x,a). p(0). p(X) if p(Y) and n(X) and n(Y). "
	for i := range count {
		text += fmt.Sprintf("n(%d). ", i)
	}
	return text
}

// P21.4
func TestNet(t *testing.T) {
	long := "role(x). "
	for i := range 23 {
		long += fmt.Sprintf("n(%d). ", i)
	}
	for _, c := range []struct {
		text string
		e    api.Errno
	}{
		{sample.Lamp, api.OK}, {sample.Noughts, api.OK}, {sample.Coin, api.OK}, {"role(x).", api.OK}, {"role(y). role(x). role(chance). sees(x,a) if p.", api.OK},
		{"", api.ErrRole}, {"p if not p.", api.ErrRole}, {"role(x). p if not p.", api.ErrCycle}, {"role(x). true(a).", api.ErrKeyword}, {"role(x). p(X).", api.ErrUnsafe}, {"role(f(x)).", api.ErrRole},
		{long + "p(X,Y) if n(X) and n(Y).", api.ErrTooLarge},
		{long[:len("role(x). ")+10*6] + "p(A,B,C,D) if n(A) and n(B) and n(C) and n(D).", api.ErrTooLarge},
		{long + "q if n(X) and n(Y) and n(Z).", api.ErrTooLarge},
		{wide(25), api.OK}, {wide(26), api.ErrTooLarge},
	} {
		l := sample.Rules(c.text)
		net, e := compile.Net(l)
		if e != c.e || e != api.OK && fmt.Sprint(net) != fmt.Sprint(api.Net{}) {
			t.Errorf("%s: %d, %d gates, want %d", c.text, e, len(net.Gates), c.e)
		}
		if _, other := check.Rules(l); other != api.OK && other != e {
			t.Errorf("%s: %d, check.Rules has %d", c.text, e, other)
		} else if _, other := relax.Atoms(l); other != api.OK && other != e {
			t.Errorf("%s: %d, relax.Atoms has %d", c.text, e, other)
		}
		if g, other := ground.Rules(l); other != api.OK && other != e {
			t.Errorf("%s: %d, ground.Rules has %d", c.text, e, other)
		} else if want, also := compile.Ground(g, check.Roles(l), check.Hidden(l)); other == api.OK && (also != e || network.Text(want) != network.Text(net)) {
			t.Errorf("%s: %d, Ground has %d, and perhaps another network", c.text, e, also)
		}
	}
}

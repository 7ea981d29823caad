package clone_test

import (
	"math/rand/v2"
	"testing"

	"gameplayer/clone"
	"gameplayer/network"
	"gameplayer/sample"
)

// The copies are equal and share no memory with what was copied.
func TestClone(t *testing.T) {
	l := sample.RoomyRules(sample.Rules("p(X,f(g(X))) if q(f(X)) and not r(X,f(a)). q(f(a)). s."))
	rules := sample.ShowRules(l)
	sample.SpoilRules(clone.Rules(l))
	terms := sample.Roomy(sample.Terms("a, f(g(b),c), 10"))
	text := sample.Show(terms)
	sample.Spoil(clone.Terms(terms))
	sample.Spoil(clone.Term(terms[1]).Args)
	if sample.ShowRules(l) != rules || sample.Show(terms) != text {
		t.Error("what was copied has changed")
	}
	exact := sample.Rules("p(X,f(g(X))) if q(f(X)) and not r(X,f(a)). q(f(a)). s.")
	if got := sample.ShowRules(sample.RoomyRules(clone.Rules(l))); got != sample.ShowRules(sample.RoomyRules(exact)) {
		t.Error(got)
	}
	if got := sample.Show(sample.Roomy(clone.Terms(terms))); got != text {
		t.Error(got)
	}
	if clone.Terms(nil) != nil || clone.Rules(nil) != nil || clone.Term(terms[0]).Args != nil {
		t.Error("empty lists")
	}
}

// A copy of a network is equal and shares no memory with it.
func TestNet(t *testing.T) {
	r := rand.New(rand.NewPCG(1, 5))
	for range 200 {
		n := sample.RoomyNet(sample.AnyNet(r.IntN))
		before := sample.ShowNet(n)
		copied := clone.Net(n)
		if network.Text(copied) != network.Text(n) {
			t.Fatal(copied, n)
		}
		sample.SpoilNet(copied)
		if sample.ShowNet(n) != before {
			t.Fatal("what was copied has changed")
		}
	}
}

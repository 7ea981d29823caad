package random_test

import (
	"hash/fnv"
	"math"
	"math/big"
	"slices"
	"strings"
	"testing"

	"gameplayer/api"
	"gameplayer/random"
)

const step = 0x9E3779B97F4A7C15

// seeds are states at the edges and in between.
func seeds() []uint64 {
	l := []uint64{0, 1, 2, 3, 10, 42, 1234567, 1 << 31, 1<<32 - 1, 1 << 32, 1<<63 - 1, 1 << 63, math.MaxUint64 - 1, math.MaxUint64}
	for i := range uint64(50) {
		l = append(l, i*i*i*0x123456789ABCDEF+i)
	}
	back := uint64(0) // states whose following ones are near 0
	for range 3 {
		back -= step
		l = append(l, back, back+1, -back)
	}
	return l
}

// mod returns a number modulo 2^64.
func mod(x *big.Int) *big.Int {
	return new(big.Int).Mod(x, new(big.Int).Lsh(big.NewInt(1), 64))
}

func bigOf(n uint64) *big.Int { return new(big.Int).SetUint64(n) }

// mixed returns z XOR (z >> n).
func mixed(z *big.Int, n uint) *big.Int { return new(big.Int).Xor(z, new(big.Int).Rsh(z, n)) }

// reference computes the following state and the number by the definition, with big integers.
func reference(state uint64) (uint64, uint64) {
	z := mod(new(big.Int).Add(bigOf(state), bigOf(step)))
	following := z.Uint64()
	z = mod(new(big.Int).Mul(mixed(z, 30), bigOf(0xBF58476D1CE4E5B9)))
	z = mod(new(big.Int).Mul(mixed(z, 27), bigOf(0x94D049BB133111EB)))
	return following, mixed(z, 31).Uint64()
}

// source draws by the definition, without the package under test.
type source struct{ state uint64 }

func (s *source) next() uint64 {
	var n uint64
	s.state, n = reference(s.state)
	return n
}

func (s *source) below(n int) int {
	rest := new(big.Int).Mod(bigOf(s.next()), big.NewInt(int64(n)))
	return int(rest.Int64())
}

// P3.1
func TestNew(t *testing.T) {
	for _, seed := range seeds() {
		if g := random.New(seed); g != (api.Gen{State: seed}) {
			t.Errorf("New(%x) has the state %x", seed, g.State)
		}
	}
}

// P3.1: the numbers of the chapter's example, and those that are published for the seed 1234567
func TestKnownNumbers(t *testing.T) {
	for _, c := range []struct {
		seed uint64
		want []uint64
	}{
		{0, []uint64{0xE220A8397B1DCDAF, 0x6E789E6AA1B965F4}},
		{1234567, []uint64{6457827717110365317, 3203168211198807973, 9817491932198370423, 4593380528125082431, 16408922859458223821}},
	} {
		g := random.New(c.seed)
		for i, want := range c.want {
			var n uint64
			if g, n = random.Next(g); n != want || g.State != c.seed+uint64(i+1)*step {
				t.Errorf("seed %d, number %d: %x, %x", c.seed, i, g.State, n)
			}
		}
	}
}

// P3.1
func TestNext(t *testing.T) {
	for _, seed := range seeds() {
		following, want := reference(seed)
		if g, n := random.Next(api.Gen{State: seed}); g.State != following || n != want {
			t.Errorf("Next of %x is %x, %x, not %x, %x", seed, g.State, n, following, want)
		}
	}
}

// P3.2: the chapter's example, published hashes, and bytes rather than characters
func TestSeed(t *testing.T) {
	for s, want := range map[string]uint64{"": 14695981039346656037, "a": 0xAF63DC4C8601EC8C, "b": 0xAF63DF4C8601F1A5, "foobar": 0x85944171F73967E8} {
		if got := random.Seed(s); got != want {
			t.Errorf("Seed(%q) is %x", s, got)
		}
	}
	for _, s := range []string{"\x00", "\x00\x00", "\xff", "\x80a", "\u00e4\u4e16", "ab", "ba", " a", "a\n", strings.Repeat("xyz", 100000)} {
		h := fnv.New64a()
		h.Write([]byte(s))
		if got := random.Seed(s); got != h.Sum64() {
			t.Errorf("Seed(%.20q) is %x", s, got)
		}
	}
}

// P3.3, P3.7
func TestBelow(t *testing.T) {
	limits := []int{1, 2, 3, 5, 6, 7, 10, 64, 100, 256, 4096, math.MaxInt32, 1 << 32, 1<<32 + 1, 1 << 44, 1 << 62, math.MaxInt - 1, math.MaxInt}
	for _, seed := range seeds() {
		for _, n := range limits {
			s := source{seed}
			want := s.below(n)
			if g, k := random.Below(random.New(seed), n); g.State != s.state || k != want || k < 0 || k >= n {
				t.Errorf("Below(%x, %d) is %x, %d, not %x, %d", seed, n, g.State, k, s.state, want)
			}
		}
	}
	if _, k := random.Below(random.New(0), 10); k != 5 {
		t.Error("the example:", k)
	}
}

// P3.3: no number is drawn
func TestBelowNothing(t *testing.T) {
	for _, seed := range seeds() {
		for _, n := range []int{0, -1, -2, -10, math.MinInt32, math.MinInt + 1, math.MinInt} {
			if g, k := random.Below(random.New(seed), n); g != random.New(seed) || k != 0 {
				t.Errorf("Below(%x, %d) is %x, %d", seed, n, g.State, k)
			}
		}
	}
}

// P3.4
func TestSplit(t *testing.T) {
	for _, seed := range seeds() {
		s := source{seed}
		first, second := s.next(), s.next()
		if a, b := random.Split(random.New(seed)); a.State != first || b.State != second {
			t.Errorf("Split of %x is %x, %x, not %x, %x", seed, a.State, b.State, first, second)
		}
	}
}

// shuffled is what Shuffle returns by the definition, for a length that is permitted.
func shuffled(seed uint64, m int) (uint64, []int) {
	s := source{seed}
	var l []int
	for i := range m {
		l = append(l, i)
	}
	for i := m - 1; i >= 1; i-- {
		k := s.below(i + 1)
		l[i], l[k] = l[k], l[i]
	}
	return s.state, l
}

// P3.5
func TestShuffle(t *testing.T) {
	for _, seed := range seeds() {
		for _, n := range []int{0, 1, 2, 3, 4, 5, 10, 33} {
			state, want := shuffled(seed, n)
			if g, l := random.Shuffle(random.New(seed), n); g.State != state || !slices.Equal(l, want) {
				t.Errorf("Shuffle(%x, %d) is %x, %v, not %x, %v", seed, n, g.State, l, state, want)
			}
		}
	}
	if _, l := random.Shuffle(random.New(0), 3); !slices.Equal(l, []int{2, 0, 1}) {
		t.Error("the example:", l)
	}
}

// P3.5: lengths that are limited
func TestShuffleLimits(t *testing.T) {
	for _, c := range []struct{ n, m int }{{-1, 0}, {math.MinInt, 0}, {4095, 4095}, {4096, 4096}, {4097, 4096}, {5000, 4096}, {1 << 32, 4096}, {math.MaxInt, 4096}} {
		for _, seed := range []uint64{0, 7} {
			state, want := shuffled(seed, c.m)
			if g, l := random.Shuffle(random.New(seed), c.n); g.State != state || !slices.Equal(l, want) {
				t.Errorf("Shuffle(%x, %d) has %d elements and the state %x", seed, c.n, len(l), g.State)
			}
		}
	}
}

// P3.7
func TestShuffleIsAPermutation(t *testing.T) {
	for n := range 130 {
		for seed := range uint64(20) {
			_, l := random.Shuffle(random.New(seed*step), n)
			slices.Sort(l)
			for i, x := range l {
				if x != i || len(l) != n {
					t.Fatalf("Shuffle of %d has, sorted, %v", n, l)
				}
			}
		}
	}
}

// R5: a result is new memory
func TestShuffleGivesNewMemory(t *testing.T) {
	_, a := random.Shuffle(random.New(5), 9)
	want := slices.Clone(a)
	_, b := random.Shuffle(random.New(5), 9)
	clear(b[:cap(b)])
	if !slices.Equal(a, want) {
		t.Error("two results share memory:", a)
	}
}

// picked is what Pick returns by the definition, for at most 4096 weights.
func picked(seed uint64, weights []int) (uint64, int) {
	var ends []int
	sum := 0
	for _, w := range weights {
		switch {
		case w > 1<<32:
			sum += 1 << 32
		case w > 0:
			sum += w
		}
		ends = append(ends, sum)
	}
	if sum == 0 {
		return seed, -1
	}
	s := source{seed}
	k := s.below(sum)
	return s.state, slices.IndexFunc(ends, func(end int) bool { return end > k })
}

// filled returns n equal weights.
func filled(n, weight int) []int { return slices.Repeat([]int{weight}, n) }

// P3.6, P3.7: ordinary weights and those that are limited
func TestPick(t *testing.T) {
	const top = 1 << 32
	for _, weights := range [][]int{
		{1}, {0, 1}, {1, 0}, {1, 0, 2}, {1, 2}, {2, 1}, {0, 0, 5, 0}, {3, 0, 0, 3}, {1, 1, 1, 1, 1, 1}, {100, 1, 50},
		{-1, 1}, {1, -1}, {0, -5, 3}, {math.MinInt, 2, math.MinInt, 2}, {5, -5, 5}, {-3, 3, -3},
		{top, 1}, {top + 1, 1}, {1, top - 1}, {1, top}, {1, top + 1}, {top, top}, {top + 1, top}, {math.MaxInt, 1}, {math.MaxInt, math.MaxInt, math.MaxInt}, {1, math.MaxInt}, {math.MinInt, math.MaxInt, 7}, {2 * top, top},
		filled(4096, 1), filled(4096, math.MaxInt), append(filled(4095, 0), 1), append(filled(4095, -1), math.MaxInt),
	} {
		for _, seed := range seeds() {
			state, want := picked(seed, weights)
			g, i := random.Pick(random.New(seed), weights)
			if g.State != state || i != want {
				t.Errorf("Pick(%x, %.60v) is %x, %d, not %x, %d", seed, weights, g.State, i, state, want)
			}
			if i < 0 || i >= len(weights) || weights[i] < 1 {
				t.Errorf("Pick(%x, %.60v) picks %d", seed, weights, i)
			}
		}
	}
	if _, i := random.Pick(random.New(0), []int{1, 0, 2}); i != 2 {
		t.Error("the example:", i)
	}
}

// P3.6, P3.7: nothing is picked, and no number drawn
func TestPickNothing(t *testing.T) {
	for _, weights := range [][]int{nil, {}, {0}, {0, 0, 0}, {-1}, {0, -1, math.MinInt}, filled(4096, 0), filled(4097, 1), filled(4097, 0), append(filled(4096, 0), 1), append([]int{1}, filled(4096, 0)...), filled(100000, math.MaxInt)} {
		for _, seed := range []uint64{0, 1, step, math.MaxUint64} {
			if g, i := random.Pick(random.New(seed), weights); g != random.New(seed) || i != -1 {
				t.Errorf("Pick(%x, %.40v) is %x, %d", seed, weights, g.State, i)
			}
		}
	}
}

// P3.6: each index has its share of the numbers
func TestPickIsInProportion(t *testing.T) {
	weights := []int{1, 0, 2, -4, 5}
	count := make([]int, len(weights))
	g := random.New(99)
	for range 8000 {
		var i int
		g, i = random.Pick(g, weights)
		count[i]++
	}
	for i, w := range weights {
		if want := 1000 * max(w, 0); count[i] < want*9/10 || count[i] > want*11/10 {
			t.Error("index", i, "was picked", count[i], "times")
		}
	}
}

// R5: the weights and their spare capacity stay as they are
func TestPickKeepsWeights(t *testing.T) {
	l := append(make([]int, 0, 6), -3, 0, 1<<40, 2)
	copy(l[4:6], []int{8, 9})
	random.Pick(random.New(3), l)
	if !slices.Equal(l[:6], []int{-3, 0, 1 << 40, 2, 8, 9}) {
		t.Error(l[:6])
	}
}

// P3.8
func TestStreams(t *testing.T) {
	for _, seed := range seeds() {
		g := random.New(seed)
		for k := range uint64(100) {
			if g.State != seed+k*step {
				t.Fatalf("after %d calls from %x the state is %x", k, seed, g.State)
			}
			g, _ = random.Next(g)
		}
	}
}

// P3.8: what is drawn from other generators in between has no influence
func TestStreamsAreIndependent(t *testing.T) {
	alone, mixedUp := random.New(11), random.New(11)
	other := random.New(12)
	for range 200 {
		var a, b uint64
		alone, a = random.Next(alone)
		other, _ = random.Shuffle(other, 5)
		other, _ = random.Pick(other, []int{1, 2})
		random.Split(other)
		random.Next(mixedUp) // a generator is a value: this draws nothing from it
		mixedUp, b = random.Next(mixedUp)
		if a != b || alone != mixedUp {
			t.Fatal(a, b)
		}
	}
}

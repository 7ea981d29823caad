package fraction_test

import (
	"math"
	"math/big"
	"strings"
	"testing"

	"gameplayer/api"
	"gameplayer/fraction"
)

const top = api.MaxFraction

func frac(num, den int) api.Frac { return api.Frac{Num: num, Den: den} }

func rat(f api.Frac) *big.Rat { return big.NewRat(int64(f.Num), int64(f.Den)) }

// fromRat returns the valid fraction with a value, if there is one, without the package under test.
func fromRat(r *big.Rat) (api.Frac, api.Errno) {
	limit := big.NewInt(top)
	if r.Num().CmpAbs(limit) > 0 || r.Denom().Cmp(limit) > 0 {
		return api.Frac{}, api.ErrRange
	}
	return frac(int(r.Num().Int64()), int(r.Denom().Int64())), api.OK
}

// samples are valid fractions: all small ones, and some at and near the limits.
func samples() []api.Frac {
	var l []api.Frac
	for den := 1; den <= 6; den++ {
		for num := -7; num <= 7; num++ {
			if r := big.NewRat(int64(num), int64(den)); r.Denom().Int64() == int64(den) {
				l = append(l, frac(num, den))
			}
		}
	}
	for _, f := range []api.Frac{frac(top, 1), frac(top-1, 1), frac(top, top-1), frac(top-1, top), frac(1, top), frac(1, top-1), frac(1<<15, 32767), frac(32767, 1<<15), frac(1<<29, 3), frac(99, 100), frac(355, 113), frac(715827883, 2), frac(1, 715827882)} {
		l = append(l, f, frac(-f.Num, f.Den))
	}
	return l
}

// invalid are fractions that are not valid.
func invalid() []api.Frac {
	return []api.Frac{{}, frac(1, 0), frac(0, 2), frac(2, 4), frac(-3, 6), frac(1, -1), frac(-1, -1), frac(0, -1), frac(top+1, 1), frac(-top-1, 1), frac(1, top+1), frac(top, top), frac(math.MinInt, 1), frac(1, math.MinInt), frac(math.MinInt, math.MinInt), frac(math.MaxInt, 1), frac(1, math.MaxInt)}
}

// P2.1
func TestMake(t *testing.T) {
	for _, c := range []struct {
		num, den int
		want     api.Frac
		err      api.Errno
	}{
		{6, -8, frac(-3, 4), api.OK}, {-6, -8, frac(3, 4), api.OK}, {-6, 8, frac(-3, 4), api.OK},
		{0, 7, frac(0, 1), api.OK}, {0, -7, frac(0, 1), api.OK}, {0, math.MinInt, frac(0, 1), api.OK}, {0, math.MaxInt, frac(0, 1), api.OK},
		{1, 0, api.Frac{}, api.ErrInvalid}, {0, 0, api.Frac{}, api.ErrInvalid}, {math.MinInt, 0, api.Frac{}, api.ErrInvalid},
		{top, 1, frac(top, 1), api.OK}, {-top, 1, frac(-top, 1), api.OK}, {1, top, frac(1, top), api.OK}, {1, -top, frac(-1, top), api.OK},
		{top + 1, 1, api.Frac{}, api.ErrRange}, {-top - 1, 1, api.Frac{}, api.ErrRange}, {1, top + 1, api.Frac{}, api.ErrRange}, {1, -top - 1, api.Frac{}, api.ErrRange},
		{2 * top, 2, frac(top, 1), api.OK}, {2, 2 * top, frac(1, top), api.OK},
		{math.MinInt, math.MinInt, frac(1, 1), api.OK}, {math.MinInt, 1 << 62, frac(-2, 1), api.OK}, {math.MinInt, -1, api.Frac{}, api.ErrRange},
		{math.MinInt, -1 << 33, frac(top, 1), api.OK}, {1 << 33, math.MinInt, frac(-1, top), api.OK}, {1, math.MinInt, api.Frac{}, api.ErrRange},
		{math.MaxInt, math.MaxInt, frac(1, 1), api.OK}, {math.MinInt, math.MaxInt, api.Frac{}, api.ErrRange},
	} {
		if got, err := fraction.Make(c.num, c.den); got != c.want || err != c.err {
			t.Error(c.num, c.den, got, err)
		}
	}
}

// edges are integers whose sums and products overflow.
func edges() []int {
	var l []int
	for shift := 0; shift < 64; shift++ {
		l = append(l, 1<<shift-1, 1<<shift, 1<<shift+1, -1<<shift, -3<<shift)
	}
	return append(l, math.MaxInt, math.MinInt, 6, 100, 720720)
}

// P2.1, for all kinds of integers
func TestMakeOfAnyIntegers(t *testing.T) {
	for _, num := range edges() {
		for _, den := range edges() {
			want, wantErr := api.Frac{}, api.ErrInvalid
			if den != 0 {
				want, wantErr = fromRat(big.NewRat(int64(num), int64(den)))
			}
			if got, err := fraction.Make(num, den); got != want || err != wantErr {
				t.Fatal(num, den, got, err)
			}
		}
	}
}

// P2.1
func TestValid(t *testing.T) {
	for _, f := range samples() {
		if !fraction.Valid(f) {
			t.Error(f)
		}
	}
	for _, f := range invalid() {
		if fraction.Valid(f) {
			t.Error(f)
		}
	}
	for _, num := range edges() {
		for _, den := range edges() {
			want := false
			if den != 0 {
				f, err := fromRat(big.NewRat(int64(num), int64(den)))
				want = err == api.OK && f == frac(num, den)
			}
			if fraction.Valid(frac(num, den)) != want {
				t.Fatal(num, den)
			}
		}
	}
}

type operation struct {
	name string
	do   func(a, b api.Frac) (api.Frac, api.Errno)
	rat  func(z, a, b *big.Rat) *big.Rat
}

func operations() []operation {
	return []operation{{"add", fraction.Add, (*big.Rat).Add}, {"sub", fraction.Sub, (*big.Rat).Sub}, {"mul", fraction.Mul, (*big.Rat).Mul}, {"div", fraction.Div, (*big.Rat).Quo}}
}

// P2.2
func TestArithmetic(t *testing.T) {
	for _, o := range operations() {
		ranges := 0
		for _, a := range samples() {
			for _, b := range samples() {
				want, wantErr := api.Frac{}, api.ErrRange
				if o.name != "div" || b.Num != 0 {
					want, wantErr = fromRat(o.rat(new(big.Rat), rat(a), rat(b)))
				}
				if wantErr == api.ErrRange {
					ranges++
				}
				if got, err := o.do(a, b); got != want || err != wantErr {
					t.Fatal(o.name, a, b, got, err)
				}
			}
		}
		if ranges == 0 {
			t.Error(o.name, "never out of range")
		}
	}
}

// P2.2: an argument that is not valid is reported before a result out of range.
func TestArithmeticOfInvalid(t *testing.T) {
	for _, o := range operations() {
		for _, bad := range invalid() {
			for _, good := range []api.Frac{frac(0, 1), frac(1, 2), frac(top, 1), frac(-top, 1), frac(1, top)} {
				for _, args := range [][2]api.Frac{{bad, good}, {good, bad}, {bad, bad}} {
					if got, err := o.do(args[0], args[1]); got != (api.Frac{}) || err != api.ErrInvalid {
						t.Error(o.name, args, got, err)
					}
				}
			}
		}
	}
}

// P2.2: the examples of the document
func TestArithmeticExamples(t *testing.T) {
	if got, err := fraction.Add(frac(1, 2), frac(1, 3)); got != frac(5, 6) || err != api.OK {
		t.Error("1/2 + 1/3", got, err)
	}
	if got, err := fraction.Div(frac(1, 2), frac(0, 1)); got != (api.Frac{}) || err != api.ErrRange {
		t.Error("1/2 by 0", got, err)
	}
	if got, err := fraction.Mul(frac(top, 1), frac(1, top)); got != frac(1, 1) || err != api.OK {
		t.Error("reduced only at the end", got, err)
	}
}

// P2.3
func TestOrder(t *testing.T) {
	for _, a := range samples() {
		for _, b := range samples() {
			want := rat(a).Cmp(rat(b))
			if got := fraction.Compare(a, b); got != want {
				t.Fatal(a, b, got)
			}
			least, greatest := a, b
			if want > 0 {
				least, greatest = b, a
			}
			if fraction.Min(a, b) != least || fraction.Max(a, b) != greatest {
				t.Fatal(a, b, fraction.Min(a, b), fraction.Max(a, b))
			}
		}
	}
}

// R1: what is not valid has no specified order or text, but does not panic.
func TestInvalidDoesNotPanic(t *testing.T) {
	for _, a := range invalid() {
		fraction.Text(a)
		for _, b := range append(invalid(), frac(1, 2)) {
			fraction.Compare(a, b)
			fraction.Min(a, b)
			fraction.Max(a, b)
		}
	}
}

// P2.4
func TestSumAndMean(t *testing.T) {
	for _, c := range []struct {
		l               []api.Frac
		sum, mean       api.Frac
		sumErr, meanErr api.Errno
	}{
		{nil, frac(0, 1), api.Frac{}, api.OK, api.ErrInvalid},
		{[]api.Frac{}, frac(0, 1), api.Frac{}, api.OK, api.ErrInvalid},
		{[]api.Frac{frac(1, 2), frac(1, 3), frac(1, 6)}, frac(1, 1), frac(1, 3), api.OK, api.OK},
		{[]api.Frac{frac(-5, 7)}, frac(-5, 7), frac(-5, 7), api.OK, api.OK},
		{[]api.Frac{frac(1, 2), frac(-1, 2)}, frac(0, 1), frac(0, 1), api.OK, api.OK},
		{[]api.Frac{frac(1, 2), frac(1, 2), frac(1, 2), frac(1, 2)}, frac(2, 1), frac(1, 2), api.OK, api.OK},
		{[]api.Frac{frac(2, 4)}, api.Frac{}, api.Frac{}, api.ErrInvalid, api.ErrInvalid},
		{[]api.Frac{frac(1, 2), {}, frac(1, 2)}, api.Frac{}, api.Frac{}, api.ErrInvalid, api.ErrInvalid},
		{[]api.Frac{frac(top, 1), frac(1, 1), {}}, api.Frac{}, api.Frac{}, api.ErrRange, api.ErrRange},
		{[]api.Frac{frac(top, 1), {}, frac(1, 1)}, api.Frac{}, api.Frac{}, api.ErrInvalid, api.ErrInvalid},
		{[]api.Frac{frac(top, 1), frac(1, 1), frac(-1, 1)}, api.Frac{}, api.Frac{}, api.ErrRange, api.ErrRange},
		{[]api.Frac{frac(top, 1), frac(-1, 1), frac(1, 1)}, frac(top, 1), frac(top, 3), api.OK, api.OK},
		{[]api.Frac{frac(1, top), frac(0, 1)}, frac(1, top), api.Frac{}, api.OK, api.ErrRange},
		{[]api.Frac{frac(1, 715827883), frac(0, 1)}, frac(1, 715827883), api.Frac{}, api.OK, api.ErrRange},
		{[]api.Frac{frac(1, 32749), frac(1, 32771)}, frac(65520, 1073217479), frac(32760, 1073217479), api.OK, api.OK},
		{[]api.Frac{frac(1, 32771), frac(1, 32779)}, api.Frac{}, api.Frac{}, api.ErrRange, api.ErrRange},
	} {
		if got, err := fraction.Sum(c.l); got != c.sum || err != c.sumErr {
			t.Error("sum of", c.l, got, err)
		}
		if got, err := fraction.Mean(c.l); got != c.mean || err != c.meanErr {
			t.Error("mean of", c.l, got, err)
		}
	}
}

// rounded returns the multiple of 1/den that is nearest to f, without the package under test: the greatest one that does not exceed |f| + 1/(2 den), with the sign of f.
func rounded(f api.Frac, den int) (api.Frac, api.Errno) {
	scaled := new(big.Rat).Mul(rat(f), big.NewRat(int64(den), 1))
	scaled.Abs(scaled).Add(scaled, big.NewRat(1, 2))
	whole := new(big.Int).Div(scaled.Num(), scaled.Denom())
	if f.Num < 0 {
		whole.Neg(whole)
	}
	return fromRat(new(big.Rat).SetFrac(whole, big.NewInt(int64(den))))
}

// P2.5
func TestRound(t *testing.T) {
	for _, c := range []struct {
		f    api.Frac
		den  int
		want api.Frac
	}{
		{frac(2, 3), 100, frac(67, 100)}, {frac(-2, 3), 100, frac(-67, 100)}, {frac(1, 3), 100, frac(33, 100)},
		{frac(1, 2), 1, frac(1, 1)}, {frac(-1, 2), 1, frac(-1, 1)}, {frac(3, 2), 1, frac(2, 1)}, {frac(-5, 2), 1, frac(-3, 1)},
		{frac(1, 3), 1, frac(0, 1)}, {frac(-1, 3), 1, frac(0, 1)}, {frac(0, 1), 7, frac(0, 1)},
		{frac(1, 8), 4, frac(1, 4)}, {frac(3, 8), 4, frac(1, 2)}, {frac(1, 9), 4, frac(0, 1)},
		{frac(5, 1), 3, frac(5, 1)}, {frac(top, 1), top, frac(top, 1)}, {frac(-top, 1), top, frac(-top, 1)},
		{frac(1, top), top, frac(1, top)}, {frac(1, top), top / 2, frac(1, top/2)}, {frac(1, top), top/2 - 1, frac(0, 1)},
	} {
		if got, err := fraction.Round(c.f, c.den); got != c.want || err != api.OK {
			t.Error(c.f, c.den, got, err)
		}
	}
	for _, f := range samples() {
		for _, den := range []int{1, 2, 3, 4, 5, 7, 10, 12, 100, 32767, 1 << 29, top - 1, top} {
			want, wantErr := rounded(f, den)
			if got, err := fraction.Round(f, den); got != want || err != wantErr {
				t.Fatal(f, den, got, err, want, wantErr)
			}
		}
	}
}

// P2.5
func TestRoundErrors(t *testing.T) {
	for _, den := range []int{0, -1, -2, top + 1, top + 2, 2 * top, math.MinInt, math.MaxInt} {
		for _, f := range []api.Frac{frac(1, 2), frac(0, 1), frac(1, 1), frac(-5, 1)} { // also some that are multiples of 1/den
			if got, err := fraction.Round(f, den); got != (api.Frac{}) || err != api.ErrRange {
				t.Error(f, den, got, err)
			}
		}
	}
	for _, bad := range invalid() {
		for _, den := range []int{1, 100, 0, -1, top + 1} {
			if got, err := fraction.Round(bad, den); got != (api.Frac{}) || err != api.ErrInvalid {
				t.Error(bad, den, got, err)
			}
		}
	}
	for _, num := range []int{top - 1, 1 - top} { // the nearest multiple is 1610612735/3, or its negative
		if got, err := fraction.Round(frac(num, 2), 3); got != (api.Frac{}) || err != api.ErrRange {
			t.Error(num, got, err)
		}
	}
}

// P2.6
func TestText(t *testing.T) {
	for _, c := range []struct {
		f    api.Frac
		text string
	}{
		{frac(0, 1), "0"}, {frac(5, 1), "5"}, {frac(-5, 1), "-5"}, {frac(-3, 4), "-3/4"}, {frac(1, 10), "1/10"}, {frac(10, 3), "10/3"},
		{frac(top, 1), "1073741824"}, {frac(-top, 1), "-1073741824"}, {frac(1, top), "1/1073741824"}, {frac(-1073741823, top), "-1073741823/1073741824"},
	} {
		if got := fraction.Text(c.f); got != c.text {
			t.Error(c.f, got)
		}
	}
	for _, f := range samples() {
		want := rat(f).RatString()
		if got := fraction.Text(f); got != want {
			t.Error(f, got, want)
		}
		if got, err := fraction.Parse(want); got != f || err != api.OK {
			t.Error(want, got, err)
		}
	}
}

// P2.6
func TestParseRejects(t *testing.T) {
	for _, s := range []string{
		"", "-", "/", "-/", "1/", "/2", "-/2", "1/2/3", "1//2", "/1/2",
		"-0", "+1", "+0", "01", "-01", "00", "1/02", "1/+2", "1/-2", "-1/-2", "--1",
		"3/1", "0/1", "0/5", "-0/5", "2/4", "4/2", "1/0", "0/0", "6/3",
		" 1", "1 ", "1 /2", "1/ 2", "1/2 ", "1\n", "1/2\n", "1.5", "1e2", "0x10", "1_0", "a", "1/a", "1:2", "1,2", "\uff11", "1\x00",
		"1073741825", "-1073741825", "1/1073741825", "1073741825/2", "9223372036854775808", "-9223372036854775809", "18446744073709551617", "1/18446744073709551618",
		strings.Repeat("1", 1<<16), strings.Repeat("/", 1<<16),
	} {
		if got, err := fraction.Parse(s); got != (api.Frac{}) || err != api.ErrSyntax {
			t.Errorf("%.40q: %v %d", s, got, err)
		}
	}
}

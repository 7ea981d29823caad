package fraction_test

import (
	"math/big"
	"testing"

	"gameplayer/api"
	"gameplayer/fraction"
)

// few are samples of which all triples can be tried.
func few() []api.Frac {
	return []api.Frac{frac(0, 1), frac(1, 1), frac(-1, 1), frac(1, 2), frac(-1, 2), frac(2, 3), frac(-7, 6), frac(5, 4), frac(100, 1), frac(-99, 100), frac(top, 1), frac(-top, 1), frac(1, top), frac(top-1, top), frac(32767, 1<<15)}
}

// P2.7
func TestCommutative(t *testing.T) {
	for _, a := range samples() {
		for _, b := range samples() {
			sum, sumErr := fraction.Add(a, b)
			if other, err := fraction.Add(b, a); other != sum || err != sumErr {
				t.Fatal("sum", a, b)
			}
			product, productErr := fraction.Mul(a, b)
			if other, err := fraction.Mul(b, a); other != product || err != productErr {
				t.Fatal("product", a, b)
			}
		}
	}
}

// P2.7
func TestUndone(t *testing.T) {
	sums, products := 0, 0
	for _, a := range samples() {
		for _, b := range samples() {
			if sum, err := fraction.Add(a, b); err == api.OK {
				sums++
				if back, err := fraction.Sub(sum, b); back != a || err != api.OK {
					t.Fatal("Sub", a, b, back, err)
				}
			}
			if product, err := fraction.Mul(a, b); err == api.OK && b.Num != 0 {
				products++
				if back, err := fraction.Div(product, b); back != a || err != api.OK {
					t.Fatal("Div", a, b, back, err)
				}
			}
		}
	}
	if sums < 1000 || products < 1000 {
		t.Error("too few results:", sums, products)
	}
}

// distributed returns a(b + c) and ab + ac, and whether both are computed without an error.
func distributed(a, b, c api.Frac) (api.Frac, api.Frac, bool) {
	sum, err1 := fraction.Add(b, c)
	whole, err2 := fraction.Mul(a, sum)
	left, err3 := fraction.Mul(a, b)
	right, err4 := fraction.Mul(a, c)
	parts, err5 := fraction.Add(left, right)
	return whole, parts, err1 == api.OK && err2 == api.OK && err3 == api.OK && err4 == api.OK && err5 == api.OK
}

// P2.7
func TestDistributive(t *testing.T) {
	tried := 0
	for _, a := range few() {
		for _, b := range few() {
			for _, c := range few() {
				if whole, parts, ok := distributed(a, b, c); ok {
					tried++
					if whole != parts {
						t.Fatal(a, b, c, whole, parts)
					}
				}
			}
		}
	}
	if tried < 500 {
		t.Error("too few results:", tried)
	}
}

// P2.8
func TestOrderIsTotal(t *testing.T) {
	for _, a := range samples() {
		for _, b := range samples() {
			order := fraction.Compare(a, b)
			if (order == 0) != (a == b) || order != -fraction.Compare(b, a) {
				t.Fatal(a, b, order)
			}
			if difference, err := fraction.Sub(b, a); err == api.OK && (order < 0) != (difference.Num > 0) {
				t.Fatal(a, b, order, difference)
			}
			for _, c := range few() {
				if order <= 0 && fraction.Compare(b, c) <= 0 && fraction.Compare(a, c) > 0 {
					t.Fatal(a, b, c)
				}
			}
		}
	}
}

// P2.8
func TestMeanLiesBetween(t *testing.T) {
	tried := 0
	for _, a := range few() {
		for _, b := range few() {
			for _, c := range few() {
				mean, err := fraction.Mean([]api.Frac{a, b, c})
				if err != api.OK {
					continue
				}
				tried++
				least := fraction.Min(a, fraction.Min(b, c))
				greatest := fraction.Max(a, fraction.Max(b, c))
				if fraction.Compare(least, mean) > 0 || fraction.Compare(mean, greatest) > 0 {
					t.Fatal(a, b, c, mean)
				}
			}
		}
	}
	if tried < 500 {
		t.Error("too few results:", tried)
	}
}

// P2.8
func TestRoundedIsNear(t *testing.T) {
	for _, f := range samples() {
		for _, den := range []int{1, 2, 3, 7, 100, 1 << 20, top} {
			r, err := fraction.Round(f, den)
			if err != api.OK {
				continue
			}
			difference := new(big.Rat).Sub(rat(r), rat(f))
			if difference.Abs(difference).Cmp(big.NewRat(1, 2*int64(den))) > 0 {
				t.Fatal(f, den, r)
			}
		}
	}
}

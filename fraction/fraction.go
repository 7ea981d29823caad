// Package fraction is layer 2: see shared/doc/02-fraction.md.
package fraction

import (
	"cmp"
	"strconv"
	"strings"

	"gameplayer/api"
)

// Make returns a fraction in lowest terms.
func Make(num, den int) (api.Frac, api.Errno) {
	if den == 0 {
		return api.Frac{}, api.ErrInvalid
	}
	n, d := magnitude(num), magnitude(den)
	g := divisor(n, d)
	n, d = n/g, d/g
	if n > api.MaxFraction || d > api.MaxFraction {
		return api.Frac{}, api.ErrRange
	}
	f := api.Frac{Num: int(n), Den: int(d)}
	if (num < 0) != (den < 0) {
		f.Num = -f.Num
	}
	return f, api.OK
}

// magnitude returns the absolute value, as a type that also has that of the least int.
func magnitude(n int) uint64 {
	if n < 0 {
		return -uint64(n)
	}
	return uint64(n)
}

// divisor returns the greatest common divisor.
func divisor(a, b uint64) uint64 {
	for b != 0 {
		a, b = b, a%b
	}
	return a
}

// Valid reports whether a fraction is valid.
func Valid(f api.Frac) bool {
	g, err := Make(f.Num, f.Den)
	return err == api.OK && f == g
}

// Add returns a sum.
func Add(a, b api.Frac) (api.Frac, api.Errno) {
	if !Valid(a) || !Valid(b) {
		return api.Frac{}, api.ErrInvalid
	}
	return Make(a.Num*b.Den+b.Num*a.Den, a.Den*b.Den)
}

// Sub returns a difference.
func Sub(a, b api.Frac) (api.Frac, api.Errno) {
	if !Valid(a) || !Valid(b) {
		return api.Frac{}, api.ErrInvalid
	}
	return Make(a.Num*b.Den-b.Num*a.Den, a.Den*b.Den)
}

// Mul returns a product.
func Mul(a, b api.Frac) (api.Frac, api.Errno) {
	if !Valid(a) || !Valid(b) {
		return api.Frac{}, api.ErrInvalid
	}
	return Make(a.Num*b.Num, a.Den*b.Den)
}

// Div returns a quotient.
func Div(a, b api.Frac) (api.Frac, api.Errno) {
	if !Valid(a) || !Valid(b) {
		return api.Frac{}, api.ErrInvalid
	}
	if b.Num == 0 {
		return api.Frac{}, api.ErrRange
	}
	return Make(a.Num*b.Den, a.Den*b.Num)
}

// Compare returns the order of two fractions.
func Compare(a, b api.Frac) int {
	if a == b {
		return 0
	}
	return cmp.Compare(a.Num*b.Den, b.Num*a.Den)
}

// Min returns the smaller fraction.
func Min(a, b api.Frac) api.Frac {
	if Compare(b, a) < 0 {
		return b
	}
	return a
}

// Max returns the greater fraction.
func Max(a, b api.Frac) api.Frac {
	if Compare(b, a) > 0 {
		return b
	}
	return a
}

// Sum returns the sum of a list.
func Sum(l []api.Frac) (api.Frac, api.Errno) {
	sum := api.Frac{Num: 0, Den: 1}
	for _, f := range l {
		next, err := Add(sum, f)
		if err != api.OK {
			return api.Frac{}, err
		}
		sum = next
	}
	return sum, api.OK
}

// Mean returns the arithmetic mean of a list.
func Mean(l []api.Frac) (api.Frac, api.Errno) {
	if len(l) == 0 {
		return api.Frac{}, api.ErrInvalid
	}
	sum, err := Sum(l)
	if err != api.OK {
		return api.Frac{}, err
	}
	return Make(sum.Num, sum.Den*len(l))
}

// Round returns the nearest multiple of 1/den.
func Round(f api.Frac, den int) (api.Frac, api.Errno) {
	if !Valid(f) {
		return api.Frac{}, api.ErrInvalid
	}
	if den < 1 || den > api.MaxFraction {
		return api.Frac{}, api.ErrRange
	}
	return Make(nearest(f.Num*den, f.Den), den)
}

// nearest returns the integer nearest to num/den, where den is positive; of two equally near ones the one that is farther from 0.
func nearest(num, den int) int {
	if num < 0 {
		return -nearest(-num, den)
	}
	return (2*num + den) / (2 * den)
}

// Text returns the text of a fraction.
func Text(f api.Frac) string {
	if f.Den == 1 {
		return strconv.Itoa(f.Num)
	}
	return strconv.Itoa(f.Num) + "/" + strconv.Itoa(f.Den)
}

// Parse reads a fraction.
func Parse(s string) (api.Frac, api.Errno) {
	num, den, slash := strings.Cut(s, "/")
	if !slash {
		den = "1"
	}
	n, numErr := strconv.Atoi(num)
	d, denErr := strconv.Atoi(den)
	if numErr != nil || denErr != nil {
		return api.Frac{}, api.ErrSyntax
	}
	f := api.Frac{Num: n, Den: d}
	if !Valid(f) || Text(f) != s { // Atoi reads more forms than Text writes
		return api.Frac{}, api.ErrSyntax
	}
	return f, api.OK
}

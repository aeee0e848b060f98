package rank

import (
	"cmp"
	"math"
	"math/bits"

	"sleuth/api"
)

// fraction is a fraction in lowest terms, whose Den is above 0. Scores are small enough for its methods not to wrap around.
type fraction api.Ratio

func whole(n int64) fraction { return fraction{n, 1} }

// Fraction returns a quotient in lowest terms.
func Fraction(num, den int64) (api.Ratio, api.Errno) {
	switch {
	case den == 0:
		return api.Ratio{}, api.ErrArg
	case num == math.MinInt64 || den == math.MinInt64:
		return api.Ratio{}, api.ErrLimit
	case den < 0:
		num, den = -num, -den
	}
	d := commonDivisor(num, den)
	return api.Ratio{Num: num / d, Den: den / d}, api.OK
}

// commonDivisor returns the greatest common divisor of a number and one above 0.
func commonDivisor(a, b int64) int64 {
	for a != 0 {
		a, b = b%a, a
	}
	return max(b, -b)
}

// quotient returns num / den, and 0 if den is 0.
func quotient(num, den int64) fraction {
	if den == 0 {
		return whole(0)
	}
	x, _ := Fraction(num, den)
	return fraction(x)
}

func (a fraction) plus(b fraction) fraction {
	return quotient(a.Num*b.Den+b.Num*a.Den, a.Den*b.Den)
}

func (a fraction) minus(b fraction) fraction { return a.plus(fraction{-b.Num, b.Den}) }

func (a fraction) times(b fraction) fraction { return quotient(a.Num*b.Num, a.Den*b.Den) }

// over returns a / b, and 0 if b is 0.
func (a fraction) over(b fraction) fraction { return quotient(a.Num*b.Den, a.Den*b.Num) }

// gap returns by how much a and b differ.
func (a fraction) gap(b fraction) fraction {
	d := a.minus(b)
	return fraction{max(d.Num, -d.Num), d.Den}
}

// Compare compares two fractions.
func Compare(a, b api.Ratio) int {
	a, b = orZero(a), orZero(b)
	if c := cmp.Compare(sign(a.Num), sign(b.Num)); c != 0 {
		return c
	}
	// The products may need 128 bits, and the size of the least number needs 64.
	high, low := bits.Mul64(size(a.Num), uint64(b.Den))
	otherHigh, otherLow := bits.Mul64(size(b.Num), uint64(a.Den))
	return sign(a.Num) * cmp.Or(cmp.Compare(high, otherHigh), cmp.Compare(low, otherLow))
}

// orZero returns what a fraction that anybody may have made stands for.
func orZero(a api.Ratio) api.Ratio {
	if a.Den <= 0 {
		return api.Ratio{Num: 0, Den: 1}
	}
	return a
}

func sign(n int64) int { return cmp.Compare(n, 0) }

func size(n int64) uint64 {
	if n < 0 {
		return -uint64(n)
	}
	return uint64(n)
}

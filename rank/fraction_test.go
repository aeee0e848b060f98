package rank_test

import (
	"math"
	"math/big"
	"math/rand"
	"testing"

	"sleuth/api"
	"sleuth/rank"
)

// edges returns the numbers at which something may wrap around, and small ones.
func edges() []int64 {
	l := []int64{math.MinInt64, math.MinInt64 + 1, math.MinInt64 + 2, math.MaxInt64 - 1, math.MaxInt64, 1 << 62, -1 << 62, 1<<62 - 1, 1 << 32, 1<<32 - 1, -1 << 32, 3037000499, 3037000500}
	for n := int64(-12); n <= 12; n++ {
		l = append(l, n)
	}
	return l
}

// P7.1: a fraction has lowest terms, and a Den above 0.
func TestFraction(t *testing.T) {
	for _, c := range []struct{ num, den, wantNum, wantDen int64 }{
		{6, -4, -3, 2}, {-6, 4, -3, 2}, {-6, -4, 3, 2}, {6, 4, 3, 2}, {7, 1, 7, 1}, {7, -1, -7, 1}, {7, 7, 1, 1}, {-7, 7, -1, 1}, {3, 12, 1, 4},
		{0, 1, 0, 1}, {0, 5, 0, 1}, {0, -5, 0, 1}, {0, math.MaxInt64, 0, 1}, {0, -math.MaxInt64, 0, 1},
		{math.MaxInt64, 1, math.MaxInt64, 1}, {math.MaxInt64, -1, -math.MaxInt64, 1}, {-math.MaxInt64, -1, math.MaxInt64, 1},
		{1, math.MaxInt64, 1, math.MaxInt64}, {1, -math.MaxInt64, -1, math.MaxInt64}, {math.MaxInt64, math.MaxInt64, 1, 1}, {-math.MaxInt64, math.MaxInt64, -1, 1},
		{1 << 62, -1 << 61, -2, 1}, {1 << 61, 1 << 62, 1, 2},
	} {
		if x, e := rank.Fraction(c.num, c.den); e != api.OK || x != ratio(c.wantNum, c.wantDen) {
			t.Errorf("Fraction(%d, %d): error %d, %v, want %d / %d", c.num, c.den, e, x, c.wantNum, c.wantDen)
		}
	}
	for _, num := range edges() {
		for _, den := range edges() {
			x, e := rank.Fraction(num, den)
			switch {
			case den == 0:
				if e != api.ErrArg || x != (api.Ratio{}) {
					t.Errorf("Fraction(%d, 0): error %d, %v", num, e, x)
				}
			case num == math.MinInt64 || den == math.MinInt64:
				if e != api.ErrLimit || x != (api.Ratio{}) {
					t.Errorf("Fraction(%d, %d): error %d, %v", num, den, e, x)
				}
			default:
				want := big.NewRat(num, den)
				if e != api.OK || want.Num().Int64() != x.Num || want.Denom().Int64() != x.Den {
					t.Errorf("Fraction(%d, %d): error %d, %v, want %v", num, den, e, x, want)
				}
			}
		}
	}
}

// value returns what a Ratio stands for.
func value(a api.Ratio) *big.Rat {
	if a.Den <= 0 {
		return new(big.Rat)
	}
	return big.NewRat(a.Num, a.Den)
}

// P7.1: Compare is exact for all numbers, and takes a Ratio without a Den above 0 as 0.
func TestCompare(t *testing.T) {
	for _, c := range []struct {
		a, b api.Ratio
		want int
	}{
		{ratio(1, 2), ratio(2, 4), 0}, {ratio(1, 2), ratio(1, 3), 1}, {ratio(-1, 2), ratio(-1, 3), -1}, {ratio(-1, 2), ratio(1, 2), -1}, {ratio(0, 1), ratio(0, 7), 0},
		{ratio(5, 0), ratio(0, 1), 0}, {ratio(5, 0), ratio(-7, 0), 0}, {ratio(5, -3), ratio(-1, 9), 1}, {ratio(-5, -3), ratio(1, 9), -1}, {api.Ratio{}, ratio(0, 3), 0},
		{ratio(9, math.MinInt64), ratio(0, 1), 0}, {ratio(math.MinInt64, 1), ratio(math.MinInt64, 1), 0}, {ratio(math.MinInt64, 1), ratio(-math.MaxInt64, 1), -1},
		{ratio(math.MinInt64, 1), ratio(math.MaxInt64, 1), -1}, {ratio(math.MinInt64, math.MaxInt64), ratio(-1, 1), -1}, {ratio(math.MinInt64, 2), ratio(-1<<62, 1), 0},
		{ratio(math.MaxInt64, math.MaxInt64-1), ratio(math.MaxInt64-1, math.MaxInt64-2), -1}, // unequal, but as floats they are not
		{ratio(1<<32, 1<<31), ratio(2, 1), 0}, {ratio(1<<62, 1), ratio(1<<62, 4), 1},         // the products have more than 64 bits
	} {
		if got := rank.Compare(c.a, c.b); got != c.want {
			t.Errorf("Compare(%v, %v): %d, want %d", c.a, c.b, got, c.want)
		}
	}
	r := rand.New(rand.NewSource(1))
	l := edges()
	one := func() int64 {
		if r.Intn(3) == 0 {
			return int64(r.Uint64())
		}
		return l[r.Intn(len(l))]
	}
	for range 100000 {
		a, b := ratio(one(), one()), ratio(one(), one())
		if r.Intn(4) == 0 {
			b = ratio(a.Num+int64(r.Intn(3)-1), a.Den+int64(r.Intn(3)-1))
		}
		if got, want := rank.Compare(a, b), value(a).Cmp(value(b)); got != want {
			t.Fatalf("Compare(%v, %v): %d, want %d", a, b, got, want)
		}
	}
}

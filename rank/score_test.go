package rank_test

import (
	"math/big"
	"math/rand"
	"testing"

	"sleuth/api"
	"sleuth/rank"
)

// term is a number of the model of scores.
type term struct{ *big.Rat }

func num(n int) term { return term{big.NewRat(int64(n), 1)} }

func (a term) plus(b term) term  { return term{new(big.Rat).Add(a.Rat, b.Rat)} }
func (a term) minus(b term) term { return term{new(big.Rat).Sub(a.Rat, b.Rat)} }
func (a term) times(b term) term { return term{new(big.Rat).Mul(a.Rat, b.Rat)} }

// by is a quotient; it is 0 if its denominator is.
func (a term) by(b term) term {
	if b.Sign() == 0 {
		return num(0)
	}
	return term{new(big.Rat).Quo(a.Rat, b.Rat)}
}

// modelScore reads the table of formulas.
func modelScore(f api.Formula, t api.Tally) term {
	h, q, m, r := num(t.FailHit), num(t.PassHit), num(t.FailMiss), num(t.PassMiss)
	fails, passes := h.plus(m), q.plus(r)
	switch f {
	case api.FoTarantula:
		return h.by(fails).by(h.by(fails).plus(q.by(passes)))
	case api.FoOchiai:
		return h.times(h).by(fails.times(h.plus(q)))
	case api.FoJaccard:
		return h.by(fails.plus(q))
	case api.FoDice:
		return num(2).times(h).by(fails.plus(h).plus(q))
	case api.FoKulczynski:
		return h.by(fails).plus(h.by(h.plus(q))).by(num(2))
	case api.FoDStar:
		if t.PassHit+t.FailMiss == 0 {
			return num(2).times(h).times(h)
		}
		return h.times(h).by(q.plus(m))
	case api.FoOp:
		return h.minus(q.by(passes.plus(num(1))))
	case api.FoBarinel:
		return h.by(h.plus(q))
	case api.FoAmple:
		d := h.by(fails).minus(q.by(passes))
		return term{new(big.Rat).Abs(d.Rat)}
	case api.FoWong:
		return h.minus(modelDamped(t.PassHit))
	case api.FoRussell:
		return h.by(fails.plus(passes))
	case api.FoMatching:
		return h.plus(r).by(fails.plus(passes))
	case api.FoGP:
		if t.FailHit == 0 {
			return num(0)
		}
		return h.times(num(1).plus(num(1).by(num(2).times(q).plus(h))))
	case api.FoZoltar:
		return h.times(h).by(h.times(fails.plus(q)).plus(num(10000).times(m).times(q)))
	}
	panic("no formula")
}

func modelDamped(q int) term {
	switch {
	case q <= 2:
		return num(q)
	case q <= 10:
		return num(2).plus(num(q - 2).by(num(10)))
	}
	return num(28).by(num(10)).plus(num(q - 10).by(num(1000)))
}

func sameValue(x api.Ratio, want term) bool {
	return x.Num == want.Num().Int64() && x.Den == want.Denom().Int64()
}

// P7.1: scores, worked out by hand.
func TestScores(t *testing.T) {
	for _, c := range []struct {
		f          api.Formula
		h, q, m, r int
		want       api.Ratio
	}{
		{api.FoTarantula, 2, 1, 2, 3, ratio(2, 3)}, {api.FoTarantula, 2, 0, 0, 0, ratio(1, 1)}, {api.FoTarantula, 0, 2, 0, 0, ratio(0, 1)}, {api.FoTarantula, 0, 0, 0, 0, ratio(0, 1)},
		{api.FoOchiai, 2, 1, 0, 3, ratio(2, 3)}, {api.FoOchiai, 0, 1, 2, 3, ratio(0, 1)}, {api.FoOchiai, 0, 0, 0, 3, ratio(0, 1)}, {api.FoOchiai, 64, 64, 64, 64, ratio(1, 4)},
		{api.FoJaccard, 1, 2, 3, 4, ratio(1, 6)}, {api.FoJaccard, 0, 0, 0, 4, ratio(0, 1)},
		{api.FoDice, 1, 2, 3, 4, ratio(2, 7)}, {api.FoDice, 0, 0, 0, 4, ratio(0, 1)},
		{api.FoKulczynski, 1, 2, 3, 4, ratio(7, 24)}, {api.FoKulczynski, 0, 0, 3, 4, ratio(0, 1)}, {api.FoKulczynski, 3, 0, 0, 0, ratio(1, 1)},
		{api.FoDStar, 3, 1, 1, 0, ratio(9, 2)}, {api.FoDStar, 3, 0, 0, 5, ratio(18, 1)}, {api.FoDStar, 0, 0, 0, 5, ratio(0, 1)}, {api.FoDStar, 64, 0, 0, 0, ratio(8192, 1)},
		{api.FoOp, 2, 3, 0, 2, ratio(3, 2)}, {api.FoOp, 0, 3, 0, 2, ratio(-1, 2)}, {api.FoOp, 0, 0, 0, 0, ratio(0, 1)}, {api.FoOp, 0, 64, 0, 0, ratio(-64, 65)},
		{api.FoBarinel, 2, 4, 9, 9, ratio(1, 3)}, {api.FoBarinel, 0, 0, 9, 9, ratio(0, 1)},
		{api.FoAmple, 1, 2, 1, 2, ratio(0, 1)}, {api.FoAmple, 0, 2, 4, 2, ratio(1, 2)}, {api.FoAmple, 3, 0, 0, 0, ratio(1, 1)}, {api.FoAmple, 0, 3, 0, 0, ratio(1, 1)}, {api.FoAmple, 0, 0, 0, 0, ratio(0, 1)},
		{api.FoWong, 1, 0, 5, 5, ratio(1, 1)}, {api.FoWong, 1, 2, 5, 5, ratio(-1, 1)}, {api.FoWong, 1, 3, 5, 5, ratio(-11, 10)}, {api.FoWong, 1, 10, 5, 5, ratio(-9, 5)},
		{api.FoWong, 1, 11, 5, 5, ratio(-1801, 1000)}, {api.FoWong, 0, 64, 0, 0, ratio(-1427, 500)},
		{api.FoRussell, 2, 3, 4, 1, ratio(1, 5)}, {api.FoRussell, 0, 0, 0, 0, ratio(0, 1)},
		{api.FoMatching, 2, 3, 4, 1, ratio(3, 10)}, {api.FoMatching, 0, 0, 0, 0, ratio(0, 1)}, {api.FoMatching, 0, 0, 0, 9, ratio(1, 1)},
		{api.FoGP, 2, 3, 4, 1, ratio(9, 4)}, {api.FoGP, 2, 0, 4, 1, ratio(3, 1)}, {api.FoGP, 0, 0, 4, 1, ratio(0, 1)}, {api.FoGP, 0, 3, 4, 1, ratio(0, 1)},
		{api.FoZoltar, 2, 1, 1, 9, ratio(1, 2502)}, {api.FoZoltar, 2, 1, 0, 9, ratio(2, 3)}, {api.FoZoltar, 0, 0, 1, 9, ratio(0, 1)}, {api.FoZoltar, 0, 1, 1, 9, ratio(0, 1)},
		{api.FoZoltar, 64, 64, 64, 64, ratio(1, 10003)},
	} {
		tally := api.Tally{FailHit: c.h, PassHit: c.q, FailMiss: c.m, PassMiss: c.r}
		if x, e := rank.Score(c.f, tally); e != api.OK || x != c.want {
			t.Errorf("Score(%d, %v): error %d, %v, want %v", c.f, tally, e, x, c.want)
		}
	}
}

// P7.1: scores are what the table of formulas says, for all small tallies and for many up to the limits.
func TestScoreTable(t *testing.T) {
	check := func(tally api.Tally) {
		t.Helper()
		for _, f := range formulas() {
			if x, e := rank.Score(f, tally); e != api.OK || !sameValue(x, modelScore(f, tally)) {
				t.Fatalf("Score(%d, %v): error %d, %v, want %v", f, tally, e, x, modelScore(f, tally))
			}
		}
	}
	for n := range 6 * 6 * 6 * 6 {
		check(api.Tally{FailHit: n % 6, PassHit: n / 6 % 6, FailMiss: n / 36 % 6, PassMiss: n / 216})
	}
	r := rand.New(rand.NewSource(2))
	one := func() int { return []int{0, 1, 2, 3, 10, 11, api.MaxTests, r.Intn(api.MaxTests + 1)}[r.Intn(8)] }
	for range 4000 {
		check(api.Tally{FailHit: one(), PassHit: one(), FailMiss: one(), PassMiss: one()})
	}
}

// P7.1: the errors of Score, of which the formula's comes first, and then those of the numbers in turn.
func TestScoreErrors(t *testing.T) {
	for _, c := range []struct {
		f          api.Formula
		h, q, m, r int
		want       api.Errno
	}{
		{api.FoNone, 1, 1, 1, 1, api.ErrArg}, {api.FoZoltar + 1, 1, 1, 1, 1, api.ErrArg}, {255, 1, 1, 1, 1, api.ErrArg}, {api.FoNone, 65, 1, 1, 1, api.ErrArg},
		{api.FoOp, -1, 1, 1, 1, api.ErrArg}, {api.FoOp, 1, -1, 1, 1, api.ErrArg}, {api.FoOp, 1, 1, -1, 1, api.ErrArg}, {api.FoOp, 1, 1, 1, -1, api.ErrArg},
		{api.FoOp, 65, 1, 1, 1, api.ErrLimit}, {api.FoOp, 1, 65, 1, 1, api.ErrLimit}, {api.FoOp, 1, 1, 65, 1, api.ErrLimit}, {api.FoOp, 1, 1, 1, 65, api.ErrLimit},
		{api.FoOp, 65, -1, 1, 1, api.ErrLimit}, {api.FoOp, -1, 65, 1, 1, api.ErrArg}, {api.FoOp, 1, 65, -1, 1, api.ErrLimit}, {api.FoOp, 1, 1, -1, 65, api.ErrArg}, {api.FoOp, 1, 1, 65, -1, api.ErrLimit},
		{api.FoOp, -1 << 63, 1, 1, 1, api.ErrArg}, {api.FoOp, 1<<63 - 1, 1, 1, 1, api.ErrLimit},
		{api.FoOp, 64, 64, 64, 64, api.OK},
	} {
		tally := api.Tally{FailHit: c.h, PassHit: c.q, FailMiss: c.m, PassMiss: c.r}
		if x, e := rank.Score(c.f, tally); e != c.want || e != api.OK && x != (api.Ratio{}) {
			t.Errorf("Score(%d, %v): error %d, %v, want %d", c.f, tally, e, x, c.want)
		}
	}
}

package rank

import "sleuth/api"

// counts is a tally in the words of the formulas.
type counts struct {
	h, q, m, r    int64 // failing and passing rows that cover, then failing and passing ones that do not
	fails, passes int64 // all failing and all passing rows
}

func countsOf(t api.Tally) counts {
	h, q, m, r := int64(t.FailHit), int64(t.PassHit), int64(t.FailMiss), int64(t.PassMiss)
	return counts{h, q, m, r, h + m, q + r}
}

// formula makes a score of two terms.
type formula struct {
	join  func(a, b fraction) fraction
	terms func(c counts) (a, b fraction)
}

func formulas() [api.FoZoltar + 1]formula {
	return [...]formula{
		api.FoTarantula: {fraction.over, func(c counts) (a, b fraction) {
			a = quotient(c.h, c.fails)
			return a, a.plus(quotient(c.q, c.passes))
		}},
		api.FoOchiai:  {fraction.over, func(c counts) (a, b fraction) { return whole(c.h * c.h), whole(c.fails * (c.h + c.q)) }},
		api.FoJaccard: {fraction.over, func(c counts) (a, b fraction) { return whole(c.h), whole(c.fails + c.q) }},
		api.FoDice:    {fraction.over, func(c counts) (a, b fraction) { return whole(2 * c.h), whole(c.fails + c.h + c.q) }},
		api.FoKulczynski: {fraction.over, func(c counts) (a, b fraction) {
			return quotient(c.h, c.fails).plus(quotient(c.h, c.h+c.q)), whole(2)
		}},
		api.FoDStar:    {fraction.over, func(c counts) (a, b fraction) { return whole(c.h * c.h), c.strays() }},
		api.FoOp:       {fraction.minus, func(c counts) (a, b fraction) { return whole(c.h), quotient(c.q, c.passes+1) }},
		api.FoBarinel:  {fraction.over, func(c counts) (a, b fraction) { return whole(c.h), whole(c.h + c.q) }},
		api.FoAmple:    {fraction.gap, func(c counts) (a, b fraction) { return quotient(c.h, c.fails), quotient(c.q, c.passes) }},
		api.FoWong:     {fraction.minus, func(c counts) (a, b fraction) { return whole(c.h), c.damped() }},
		api.FoRussell:  {fraction.over, func(c counts) (a, b fraction) { return whole(c.h), whole(c.fails + c.passes) }},
		api.FoMatching: {fraction.over, func(c counts) (a, b fraction) { return whole(c.h + c.r), whole(c.fails + c.passes) }},
		api.FoGP:       {fraction.times, func(c counts) (a, b fraction) { return whole(c.h), whole(1).plus(quotient(1, 2*c.q+c.h)) }},
		api.FoZoltar: {fraction.over, func(c counts) (a, b fraction) {
			return whole(c.h * c.h), whole(c.h*(c.fails+c.q) + 10000*c.m*c.q)
		}},
	}
}

// strays returns what FoDStar divides by; a half where there is nothing to divide by, because it doubles then.
func (c counts) strays() fraction {
	if c.q+c.m == 0 {
		return quotient(1, 2)
	}
	return whole(c.q + c.m)
}

// damped returns what passing rows count for in FoWong: the more there are, the less does one more.
func (c counts) damped() fraction {
	switch {
	case c.q <= 2:
		return whole(c.q)
	case c.q <= 10:
		return whole(2).plus(quotient(c.q-2, 10))
	}
	return quotient(28, 10).plus(quotient(c.q-10, 1000))
}

func isFormula(f api.Formula) bool { return api.FoTarantula <= f && f <= api.FoZoltar }

// Score returns the score of a tally by a formula.
func Score(f api.Formula, t api.Tally) (api.Ratio, api.Errno) {
	if !isFormula(f) {
		return api.Ratio{}, api.ErrArg
	}
	for _, n := range [...]int{t.FailHit, t.PassHit, t.FailMiss, t.PassMiss} {
		switch {
		case n < 0:
			return api.Ratio{}, api.ErrArg
		case n > api.MaxTests:
			return api.Ratio{}, api.ErrLimit
		}
	}
	by := formulas()[f]
	return api.Ratio(by.join(by.terms(countsOf(t)))), api.OK
}

package learn_test

import (
	"math/big"
	"slices"

	"sleuth/api"
)

// rows is a list of rows, about which claims are made by trying all of them.
type rows [][]int64

// column returns the different values of a variable, ascending.
func (l rows) column(v int) []int64 {
	var values []int64
	for _, row := range l {
		values = append(values, row[v])
	}
	slices.Sort(values)
	return slices.Compact(values)
}

// follows reports whether a valid claim is true of all rows.
func (l rows) follows(x api.Invariant) bool {
	return !slices.ContainsFunc(l, func(row []int64) bool { return !holds(x, row) })
}

// divisor returns the greatest common divisor of the differences of all values.
func divisor(values []int64) int64 {
	d := new(big.Int)
	for _, a := range values {
		for _, b := range values {
			d.GCD(nil, nil, d, new(big.Int).Abs(big.NewInt(a-b)))
		}
	}
	return d.Int64()
}

// single returns the claims about a variable.
func (l rows) single(v int) []api.Invariant {
	values := l.column(v)
	lowest, highest := values[0], values[len(values)-1]
	if len(values) == 1 {
		return []api.Invariant{inv(api.ClConst, v, 0, lowest, 0)}
	}
	out := []api.Invariant{inv(api.ClLow, v, 0, lowest, 0), inv(api.ClHigh, v, 0, highest, 0)}
	if len(values) <= 3 {
		out = append(out, inv(api.ClOneOf, v, 0, 0, 0, values...))
	}
	if !slices.Contains(values, 0) && lowest < 0 && highest > 0 {
		out = append(out, inv(api.ClNonzero, v, 0, 0, 0))
	}
	if m := divisor(values); len(values) > 3 && m >= 2 {
		k := new(big.Int).Mod(big.NewInt(lowest), big.NewInt(m)).Int64()
		out = append(out, inv(api.ClMod, v, 0, k, m))
	}
	return out
}

// linear returns the claim that b is on a line by a, if there is one.
func (l rows) linear(a, b int) []api.Invariant {
	for _, p := range l {
		for _, q := range l {
			if p[a] == q[a] {
				continue
			}
			k := big.NewRat(q[b]-p[b], q[a]-p[a])
			m := new(big.Rat).Sub(big.NewRat(p[b], 1), new(big.Rat).Mul(k, big.NewRat(p[a], 1)))
			x := inv(api.ClLinear, a, b, k.Num().Int64(), m.Num().Int64())
			if k.IsInt() && m.IsInt() && k.Num().IsInt64() && m.Num().IsInt64() && checked(x, len(p)) == api.OK && l.follows(x) {
				return []api.Invariant{x}
			}
			return nil
		}
	}
	return nil
}

// double returns the claims about two variables.
func (l rows) double(a, b int) []api.Invariant {
	va, vb := l.column(a), l.column(b)
	if len(va) == 1 || len(vb) == 1 {
		return nil
	}
	if x := inv(api.ClEqual, a, b, 0, 0); l.follows(x) {
		return []api.Invariant{x}
	}
	var out []api.Invariant
	for _, x := range []struct {
		claim   api.Invariant
		follows bool
	}{
		{inv(api.ClLess, a, b, 0, 0), slices.Max(va) < slices.Min(vb)}, {inv(api.ClLess, b, a, 0, 0), slices.Max(vb) < slices.Min(va)},
		{inv(api.ClLessEq, a, b, 0, 0), slices.Max(va) <= slices.Min(vb)}, {inv(api.ClLessEq, b, a, 0, 0), slices.Max(vb) <= slices.Min(va)},
		{inv(api.ClNotEqual, a, b, 0, 0), false},
	} {
		if l.follows(x.claim) {
			if !x.follows {
				out = append(out, x.claim)
			}
			break
		}
	}
	points := map[[2]int64]bool{}
	for _, row := range l {
		points[[2]int64{row[a], row[b]}] = true
	}
	if len(points) < 3 {
		return out
	}
	if x := l.linear(a, b); len(x) > 0 {
		return append(out, x...)
	}
	return append(out, l.linear(b, a)...)
}

// claims is Claims in the words of its section.
func (l rows) claims(support int) []api.Invariant {
	if len(l) == 0 || len(l) < support {
		return nil
	}
	var out []api.Invariant
	vars := len(l[0])
	for v := range vars {
		out = append(out, l.single(v)...)
	}
	for a := range vars {
		for b := a + 1; b < vars; b++ {
			out = append(out, l.double(a, b)...)
		}
	}
	return out
}

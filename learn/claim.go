package learn

import (
	"slices"

	"sleuth/api"
)

// claim is what an invariant claims about a row; each kind of invariants is a type.
type claim interface {
	invariant() api.Invariant
	variables() (a, b int) // those that it is about, or one variable twice
	holds(row []int64) bool
	text(names []string) string
}

// single is a claim's only variable.
type single struct{ a int }

// double is two variables.
type double struct{ a, b int }

func (s single) variables() (a, b int) { return s.a, s.a }

func (d double) variables() (a, b int) { return d.a, d.b }

type constant struct {
	single
	k int64
}

type oneOf struct {
	single
	set []int64
}

type low struct {
	single
	k int64
}

type high struct {
	single
	k int64
}

type nonzero struct{ single }

type modulo struct {
	single
	k, m int64
}

type equal struct{ double }

type notEqual struct{ double }

type less struct{ double }

type lessEq struct{ double }

type linear struct {
	double
	k, m int64
}

// claimed returns the claim of an invariant, whatever its fields are; nil if there is no such kind.
func claimed(x api.Invariant) claim {
	one, two := single{x.A}, double{x.A, x.B}
	switch x.Kind {
	case api.ClConst:
		return constant{one, x.K}
	case api.ClOneOf:
		return oneOf{one, x.Set}
	case api.ClLow:
		return low{one, x.K}
	case api.ClHigh:
		return high{one, x.K}
	case api.ClNonzero:
		return nonzero{one}
	case api.ClMod:
		return modulo{one, x.K, x.M}
	case api.ClEqual:
		return equal{two}
	case api.ClNotEqual:
		return notEqual{two}
	case api.ClLess:
		return less{two}
	case api.ClLessEq:
		return lessEq{two}
	case api.ClLinear:
		return linear{two, x.K, x.M}
	}
	return nil
}

func (c constant) invariant() api.Invariant {
	return api.Invariant{Kind: api.ClConst, A: c.a, K: c.k}
}

func (c oneOf) invariant() api.Invariant {
	return api.Invariant{Kind: api.ClOneOf, A: c.a, Set: c.set}
}

func (c low) invariant() api.Invariant { return api.Invariant{Kind: api.ClLow, A: c.a, K: c.k} }

func (c high) invariant() api.Invariant { return api.Invariant{Kind: api.ClHigh, A: c.a, K: c.k} }

func (c nonzero) invariant() api.Invariant { return api.Invariant{Kind: api.ClNonzero, A: c.a} }

func (c modulo) invariant() api.Invariant {
	return api.Invariant{Kind: api.ClMod, A: c.a, K: c.k, M: c.m}
}

func (c equal) invariant() api.Invariant {
	return api.Invariant{Kind: api.ClEqual, A: c.a, B: c.b}
}

func (c notEqual) invariant() api.Invariant {
	return api.Invariant{Kind: api.ClNotEqual, A: c.a, B: c.b}
}

func (c less) invariant() api.Invariant { return api.Invariant{Kind: api.ClLess, A: c.a, B: c.b} }

func (c lessEq) invariant() api.Invariant {
	return api.Invariant{Kind: api.ClLessEq, A: c.a, B: c.b}
}

func (c linear) invariant() api.Invariant {
	return api.Invariant{Kind: api.ClLinear, A: c.a, B: c.b, K: c.k, M: c.m}
}

func (c constant) holds(row []int64) bool { return row[c.a] == c.k }

func (c oneOf) holds(row []int64) bool { return slices.Contains(c.set, row[c.a]) }

func (c low) holds(row []int64) bool { return row[c.a] >= c.k }

func (c high) holds(row []int64) bool { return row[c.a] <= c.k }

func (c nonzero) holds(row []int64) bool { return row[c.a] != 0 }

func (c modulo) holds(row []int64) bool { return residue(row[c.a], c.m) == c.k }

func (c equal) holds(row []int64) bool { return row[c.a] == row[c.b] }

func (c notEqual) holds(row []int64) bool { return row[c.a] != row[c.b] }

func (c less) holds(row []int64) bool { return row[c.a] < row[c.b] }

func (c lessEq) holds(row []int64) bool { return row[c.a] <= row[c.b] }

// Plain numbers are small enough for the product and the sum.
func (c linear) holds(row []int64) bool { return row[c.b] == c.k*row[c.a]+c.m }

// residue returns n modulo m, for an m above 0.
func residue(n, m int64) int64 { return (n%m + m) % m }

// areVariables reports whether a claim is about some of so many variables, and about two of them as it has to be.
func areVariables(c claim, vars int) bool {
	a, b := c.variables()
	if a < 0 || a >= vars || b < 0 || b >= vars {
		return false
	}
	switch c.(type) {
	case equal, notEqual:
		return a < b
	case less, lessEq, linear:
		return a != b
	}
	return true
}

// areNumbers reports whether the numbers of a claim are as its kind has to have them.
func areNumbers(c claim) bool {
	switch c := c.(type) {
	case oneOf:
		return len(c.set) >= 2 && len(c.set) < manyValues && isIncreasing(c.set)
	case modulo:
		return c.m >= 2 && 0 <= c.k && c.k < c.m
	}
	return true
}

func isIncreasing(l []int64) bool {
	for i := range l {
		if i > 0 && l[i-1] >= l[i] {
			return false
		}
	}
	return true
}

func isSame(x, y api.Invariant) bool {
	return x.Kind == y.Kind && x.A == y.A && x.B == y.B && x.K == y.K && x.M == y.M && slices.Equal(x.Set, y.Set)
}

// claimOf returns the claim of an invariant about so many variables: the errors of CheckClaim.
func claimOf(x api.Invariant, vars int) (claim, api.Errno) {
	if e := checkVars(vars); e != api.OK {
		return nil, e
	}
	c := claimed(x)
	switch {
	case c == nil || !areVariables(c, vars):
		return nil, api.ErrArg
	case !isPlain(x.K) || !isPlain(x.M) || !arePlain(x.Set):
		return nil, api.ErrLimit
	case !areNumbers(c) || !isSame(c.invariant(), x): // a field that does not belong to the kind is lost in the claim
		return nil, api.ErrArg
	}
	return c, api.OK
}

// CheckClaim returns the first error of a claim about so many variables: P8.1.
func CheckClaim(x api.Invariant, vars int) api.Errno {
	_, e := claimOf(x, vars)
	return e
}

// Holds reports whether a claim is true of a row: P8.1.
func Holds(x api.Invariant, row []int64) (bool, api.Errno) {
	c, e := claimOf(x, len(row))
	switch {
	case e != api.OK:
		return false, e
	case !arePlain(row):
		return false, api.ErrLimit
	}
	return c.holds(row), api.OK
}

// First returns the first row, and its first claim, that is not true: P8.1.
func First(l []api.Invariant, rows [][]int64) (row, claim int, e api.Errno) {
	for i, r := range rows {
		for j, x := range l {
			switch ok, e := Holds(x, r); {
			case e != api.OK:
				return 0, 0, e
			case !ok:
				return i, j, api.OK
			}
		}
	}
	return -1, -1, api.OK
}

package machine

import "sleuth/api"

// The operators, as lang.Operator numbers them.
const (
	plus = iota
	minus
	times
	dividedBy
	modulo
	equals
	differs
	less
	atMost
	greater
	atLeast
	and
	or
)

// The signs, as OpUnary numbers them.
const (
	negate = iota
	invert
)

func number(n int64) api.Value { return api.Value{Kind: api.VaInt, N: n} }

func isNumber(v api.Value) bool { return v.Kind == api.VaInt }

func truth(b bool) api.Value {
	if b {
		return number(1)
	}
	return number(0)
}

// Binary returns what an operator makes of two values: P2.7.
func Binary(op int, a, b api.Value) (api.Value, api.Fault) {
	switch {
	case op == equals:
		return truth(a == b), api.FaNone
	case op == differs:
		return truth(a != b), api.FaNone
	case !isNumber(a) || !isNumber(b):
		return api.Value{}, api.FaKind
	}
	return ofNumbers(op, a.N, b.N)
}

// ofNumbers returns what an operator for which only numbers will do makes of two.
func ofNumbers(op int, x, y int64) (api.Value, api.Fault) {
	if y == 0 && (op == dividedBy || op == modulo) {
		return api.Value{}, api.FaZero
	}
	switch op {
	case plus:
		return number(x + y), api.FaNone
	case minus:
		return number(x - y), api.FaNone
	case times:
		return number(x * y), api.FaNone
	case dividedBy:
		return number(x / y), api.FaNone
	case modulo:
		return number(x % y), api.FaNone
	case less:
		return truth(x < y), api.FaNone
	case atMost:
		return truth(x <= y), api.FaNone
	case greater:
		return truth(x > y), api.FaNone
	case atLeast:
		return truth(x >= y), api.FaNone
	case and:
		return truth(x != 0 && y != 0), api.FaNone
	case or:
		return truth(x != 0 || y != 0), api.FaNone
	}
	return api.Value{}, api.FaKind
}

package machine_test

import (
	"math"
	"math/big"
	"strings"
	"testing"

	"sleuth/api"
	"sleuth/lang"
	"sleuth/machine"
)

const operators = "+ - * / % == != < <= > >= & |"

// edges are numbers at which sums, products and quotients do something special.
var edges = []int64{0, 1, -1, 2, -2, 3, -7, 7, 1 << 31, 1<<32 - 1, 3037000500, math.MaxInt64, math.MaxInt64 - 1, math.MinInt64, math.MinInt64 + 1}

// wrapped returns the number of 64 bits that an integer wraps around to.
func wrapped(x *big.Int) int64 {
	return int64(new(big.Int).And(x, new(big.Int).SetUint64(math.MaxUint64)).Uint64())
}

// exact returns what an operator makes of two numbers, computed with integers of any size.
func exact(operator string, a, b int64) (int64, api.Fault) {
	x, y, z := big.NewInt(a), big.NewInt(b), new(big.Int)
	is := map[string]bool{"==": a == b, "!=": a != b, "<": x.Cmp(y) < 0, "<=": x.Cmp(y) <= 0, ">": x.Cmp(y) > 0, ">=": x.Cmp(y) >= 0,
		"&": x.Sign()*y.Sign() != 0, "|": x.Sign()*x.Sign()+y.Sign()*y.Sign() > 0}
	switch operator {
	case "+":
		return wrapped(z.Add(x, y)), api.FaNone
	case "-":
		return wrapped(z.Sub(x, y)), api.FaNone
	case "*":
		return wrapped(z.Mul(x, y)), api.FaNone
	case "/", "%":
		if b == 0 {
			return 0, api.FaZero
		}
		quotient, rest := z.QuoRem(x, y, new(big.Int)) // rounded towards 0
		if operator == "/" {
			return wrapped(quotient), api.FaNone
		}
		return wrapped(rest), api.FaNone
	}
	if is[operator] {
		return 1, api.FaNone
	}
	return 0, api.FaNone
}

// P2.7: numbers.
func TestBinaryNumbers(t *testing.T) {
	for _, operator := range strings.Fields(operators) {
		for _, a := range edges {
			for _, b := range edges {
				want, fault := exact(operator, a, b)
				if v, f := machine.Binary(lang.Operator(operator), num(a), num(b)); v != num(want) || f != fault {
					t.Errorf("%d %s %d: %+v, fault %d", a, operator, b, v, f)
				}
			}
		}
	}
	for _, x := range []struct {
		operator string
		a, b     int64
		want     int64
	}{
		{"/", -7, 2, -3}, {"%", -7, 2, -1}, {"/", 7, -2, -3}, {"%", 7, -2, 1}, {"/", math.MinInt64, -1, math.MinInt64}, {"%", math.MinInt64, -1, 0},
		{"+", math.MaxInt64, 1, math.MinInt64}, {"-", math.MinInt64, 1, math.MaxInt64}, {"*", math.MinInt64, -1, math.MinInt64},
		{"&", 2, 4, 1}, {"&", 0, 4, 0}, {"|", 0, -3, 1}, {"|", 0, 0, 0},
	} {
		if v, f := machine.Binary(lang.Operator(x.operator), num(x.a), num(x.b)); v != num(x.want) || f != api.FaNone {
			t.Errorf("%d %s %d: %+v, fault %d", x.a, x.operator, x.b, v, f)
		}
	}
}

// P2.7: values that are no numbers, of kinds that api lists and of others.
func TestBinaryKinds(t *testing.T) {
	values := []api.Value{num(0), num(1), ref(0), ref(1), fun(0), fun(1), {Kind: 3}, {Kind: 3, N: 1}, {Kind: 255}}
	for _, operator := range strings.Fields(operators) {
		for _, a := range values {
			for _, b := range values {
				v, f := machine.Binary(lang.Operator(operator), a, b)
				want, fault := num(0), api.FaKind
				switch {
				case operator == "==" || operator == "!=":
					fault = api.FaNone
					if (a.Kind == b.Kind && a.N == b.N) == (operator == "==") {
						want = num(1)
					}
				case a.Kind == api.VaInt && b.Kind == api.VaInt:
					n, g := exact(operator, a.N, b.N)
					want, fault = num(n), g
				}
				if v != want || f != fault {
					t.Errorf("%+v %s %+v: %+v, fault %d", a, operator, b, v, f)
				}
			}
		}
	}
}

// P2.7: numbers that no operator has.
func TestBinaryNone(t *testing.T) {
	for _, op := range []int{-1, 13, 14, 100, math.MaxInt, math.MinInt, lang.Operator("!"), lang.Operator("")} {
		for _, b := range []api.Value{num(0), num(1), ref(0)} {
			if v, f := machine.Binary(op, num(1), b); v != num(0) || f != api.FaKind {
				t.Errorf("%d: %+v, fault %d", op, v, f)
			}
		}
	}
}

// P2.7: OpBinary does what Binary does, and OpUnary what subtraction and comparison do.
func TestOperatorsRun(t *testing.T) {
	for _, a := range edges {
		g := api.Given{Inputs: []int64{a, a}}
		if o := finished(t, main("print -input; print !input;"), g); len(o.Out) != 2 || o.Out[0] != -a || (o.Out[1] == 1) != (a == 0) {
			t.Errorf("signs of %d: %+v", a, o)
		}
		for _, b := range edges {
			for _, operator := range strings.Fields(operators) {
				o := finished(t, main("print input "+operator+" input;"), api.Given{Inputs: []int64{a, b}})
				want, fault := exact(operator, a, b)
				if o.Fault != fault || fault == api.FaNone && (len(o.Out) != 1 || o.Out[0] != want) {
					t.Errorf("%d %s %d: %+v", a, operator, b, o)
				}
			}
		}
	}
}

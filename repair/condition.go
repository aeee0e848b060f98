package repair

import (
	"sleuth/api"
	"sleuth/learn"
)

// Condition returns an expression that tells whether a claim is true: P9.3.
func Condition(x api.Invariant, names []string) (api.Node, api.Errno) {
	if _, e := learn.Write(x, names); e != api.OK {
		return api.Node{}, e
	}
	return condition(x, name(names[x.A]), name(names[x.B])), api.OK
}

// condition returns the expression for a valid claim about v, or about v and w.
func condition(x api.Invariant, v, w api.Node) api.Node {
	k, m := number(x.K), number(x.M)
	switch x.Kind {
	case api.ClConst:
		return binary(v, "==", k)
	case api.ClOneOf:
		return isOneOf(v, x.Set)
	case api.ClLow:
		return binary(v, ">=", k)
	case api.ClHigh:
		return binary(v, "<=", k)
	case api.ClNonzero:
		return binary(v, "!=", number(0))
	case api.ClMod:
		return binary(residue(v, x.M), "==", k)
	case api.ClEqual:
		return binary(v, "==", w)
	case api.ClNotEqual:
		return binary(v, "!=", w)
	case api.ClLess:
		return binary(v, "<", w)
	case api.ClLessEq:
		return binary(v, "<=", w)
	}
	return binary(w, "==", binary(binary(k, "*", v), "+", m)) // ClLinear
}

func isOneOf(v api.Node, set []int64) api.Node {
	n := binary(v, "==", number(set[0]))
	for _, k := range set[1:] {
		n = binary(n, "|", binary(v, "==", number(k)))
	}
	return n
}

// residue returns v modulo m; what the machine leaves of a division may be below 0.
func residue(v api.Node, m int64) api.Node {
	return binary(binary(binary(v, "%", number(m)), "+", number(m)), "%", number(m))
}

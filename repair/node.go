package repair

import (
	"iter"
	"slices"

	"sleuth/api"
	"sleuth/lang"
)

// The operators, as lang.Operator numbers them.
var operators = [...]string{"+", "-", "*", "/", "%", "==", "!=", "<", "<=", ">", ">=", "&", "|"}

func isStatement(k api.Kind) bool { return api.KiLet <= k && k <= api.KiDo }

func name(s string) api.Node { return api.Node{Kind: api.KiName, Text: s} }

// number returns the expression that is a number; the least one, which has no such expression, does not come up.
func number(n int64) api.Node {
	if n < 0 {
		return unary("-", number(-n))
	}
	return api.Node{Kind: api.KiNum, Num: n}
}

func unary(sign string, x api.Node) api.Node {
	return api.Node{Kind: api.KiUnary, Text: sign, Subs: []api.Node{x}}
}

func binary(x api.Node, operator string, y api.Node) api.Node {
	return api.Node{Kind: api.KiBinary, Text: operator, Subs: []api.Node{x, y}}
}

// alone returns the smallest program around some statements.
func alone(body []api.Node) api.Program {
	return api.Program{Funcs: []api.Func{{Name: "main", Body: body}}}
}

// rewritten copies nodes. For each statement, in the order of the text, place tells whether others stand in its place, and which ones.
func rewritten(l []api.Node, place func() (with []api.Node, replaced bool)) []api.Node {
	var out []api.Node
	for _, n := range l {
		if isStatement(n.Kind) {
			if with, replaced := place(); replaced {
				out = append(out, with...)
				continue
			}
		}
		n.Subs = rewritten(n.Subs, place)
		n.Params = slices.Clone(n.Params)
		n.Body = rewritten(n.Body, place)
		n.Else = rewritten(n.Else, place)
		out = append(out, n)
	}
	return out
}

func copied(l []api.Node) []api.Node {
	return rewritten(l, func() ([]api.Node, bool) { return nil, false })
}

func copiedEdit(x api.Edit) api.Edit { return api.Edit{At: x.At, With: copied(x.With)} }

func areSame(a, b []api.Node) bool { return lang.Same(alone(a), alone(b)) }

// filler returns a statement in which a node stands in a certain place.
type filler func(api.Node) api.Node

// hole is the place of one of the Subs of a node, which itself stands in the place that another filler fills.
type hole struct {
	node   api.Node
	index  int
	around filler
}

func (h hole) fill(x api.Node) api.Node {
	n := h.node
	n.Subs = slices.Clone(n.Subs)
	n.Subs[h.index] = x
	return h.around(n)
}

// own tells the own expressions of a statement, with what fills their places.
func own(statement api.Node) iter.Seq2[api.Node, filler] {
	return func(yield func(api.Node, filler) bool) {
		tellOwn(statement, itself, yield)
	}
}

// itself fills the place that a whole statement is.
func itself(n api.Node) api.Node { return n }

// tellOwn returns false once no expression is wanted any more.
func tellOwn(n api.Node, around filler, yield func(api.Node, filler) bool) bool {
	for i, x := range n.Subs {
		fill := hole{n, i, around}.fill
		if !yield(x, fill) || !tellOwn(x, fill, yield) {
			return false
		}
	}
	return true
}

package session

import (
	"slices"

	"sleuth/api"
)

// copies returns the copies of the elements of a list.
func copies[T any](l []T, one func(T) T) []T {
	var out []T
	for _, x := range l {
		out = append(out, one(x))
	}
	return out
}

func copiedProgram(p api.Program) api.Program {
	return api.Program{Funcs: copies(p.Funcs, func(f api.Func) api.Func {
		return api.Func{Name: f.Name, Params: slices.Clone(f.Params), Body: copies(f.Body, copiedNode)}
	})}
}

func copiedNode(n api.Node) api.Node {
	n.Subs, n.Params = copies(n.Subs, copiedNode), slices.Clone(n.Params)
	n.Body, n.Else = copies(n.Body, copiedNode), copies(n.Else, copiedNode)
	return n
}

func copiedLog(l api.Log) api.Log {
	l.Picks, l.Inputs, l.Clocks = slices.Clone(l.Picks), slices.Clone(l.Inputs), slices.Clone(l.Clocks)
	return l
}

func copiedTest(t api.Test) api.Test {
	t.Given.Inputs, t.Given.Clocks, t.Given.Picks = slices.Clone(t.Given.Inputs), slices.Clone(t.Given.Clocks), slices.Clone(t.Given.Picks)
	t.Out = slices.Clone(t.Out)
	return t
}

func copiedContract(c api.Contract) api.Contract {
	c.Names = slices.Clone(c.Names)
	c.Claims = copies(c.Claims, func(x api.Invariant) api.Invariant {
		x.Set = slices.Clone(x.Set)
		return x
	})
	return c
}

func copiedEvidence(x api.Evidence) api.Evidence {
	x.Logs, x.Tests, x.Contracts = copies(x.Logs, copiedLog), copies(x.Tests, copiedTest), copies(x.Contracts, copiedContract)
	x.Patch.Edits = copies(x.Patch.Edits, func(e api.Edit) api.Edit {
		return api.Edit{At: e.At, With: copies(e.With, copiedNode)}
	})
	x.Picks, x.Set, x.Places, x.Rest = slices.Clone(x.Picks), slices.Clone(x.Set), slices.Clone(x.Places), slices.Clone(x.Rest)
	x.Witness, x.Numbers = copies(x.Witness, slices.Clone[[]int64]), slices.Clone(x.Numbers)
	return x
}

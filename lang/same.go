package lang

import (
	"slices"

	"sleuth/api"
)

// Same reports whether two programs are the same: P1.4.
func Same(a, b api.Program) bool {
	return slices.EqualFunc(a.Funcs, b.Funcs, func(f, g api.Func) bool {
		return f.Name == g.Name && slices.Equal(f.Params, g.Params) && sameNodes(f.Body, g.Body)
	})
}

func sameNodes(a, b []api.Node) bool { return slices.EqualFunc(a, b, sameNode) }

func sameNode(a, b api.Node) bool {
	return a.Kind == b.Kind && a.Text == b.Text && a.Num == b.Num && slices.Equal(a.Params, b.Params) &&
		sameNodes(a.Subs, b.Subs) && sameNodes(a.Body, b.Body) && sameNodes(a.Else, b.Else)
}

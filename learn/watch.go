package learn

import (
	"slices"

	"sleuth/api"
	"sleuth/lang"
)

// layout is where the names and the statements of a program are in its code.
type layout struct {
	names  [][]string // of each chunk the names of its named registers, in their order
	chunks []int      // of each statement the chunk in which it stands
}

// layoutOf returns the layout of a correct program.
func layoutOf(p api.Program) layout {
	var x layout
	for _, f := range p.Funcs {
		x.names = append(x.names, slices.Clone(f.Params))
	}
	for chunk, f := range p.Funcs {
		x.statements(f.Body, chunk)
	}
	return x
}

func (x *layout) statements(l []api.Node, chunk int) {
	for _, n := range l {
		x.chunks = append(x.chunks, chunk)
		x.expressions(n.Subs)
		x.statements(n.Body, chunk)
		if n.Kind == api.KiLet || n.Kind == api.KiTry {
			x.names[chunk] = append(x.names[chunk], n.Text)
		}
		x.statements(n.Else, chunk)
	}
}

// expressions lays out the closures in expressions, whose chunks are behind those of all functions.
func (x *layout) expressions(l []api.Node) {
	for _, n := range l {
		if n.Kind == api.KiFn {
			x.names = append(x.names, slices.Concat(n.Params, lang.Held(n)))
			x.statements(n.Body, len(x.names)-1)
		}
		x.expressions(n.Subs)
	}
}

// view is what can be seen at a statement: names, and the registers that have them.
type view struct {
	names     []string
	registers []int
}

// viewOf returns what is watched at a statement: the errors of Watched.
func viewOf(p api.Program, n int) (view, api.Errno) {
	visible, e := lang.Names(p, n)
	if e != api.OK {
		return view{}, e
	}
	x := layoutOf(p)
	named := x.names[x.chunks[n]]
	var v view
	for _, s := range visible {
		if r := slices.Index(named, s); r >= 0 && len(v.names) < api.MaxVars {
			v.names = append(v.names, s)
			v.registers = append(v.registers, r)
		}
	}
	return v, api.OK
}

// Watched returns the names that are watched at a statement: P8.3.
func Watched(p api.Program, n int) ([]string, api.Errno) {
	v, e := viewOf(p, n)
	return v.names, e
}

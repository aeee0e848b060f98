package lang

import (
	"iter"
	"slices"

	"sleuth/api"
)

// stand is a statement and where it stands; the Size of its spot is left open.
type stand struct {
	spot Spot
	node api.Node
}

// statements tells the statements of a well formed program with their numbers, in the order of the text.
func statements(p api.Program) iter.Seq2[int, stand] {
	return func(yield func(int, stand) bool) {
		c := counter{yield: yield}
		for i, f := range p.Funcs {
			if !c.list(f.Body, Spot{Func: i, Parent: -1}) {
				return
			}
		}
	}
}

// counter is how far statements has come. Its methods return false once no statement is wanted any more.
type counter struct {
	yield func(int, stand) bool
	next  int
}

// list tells the statements of a list, which stands where the spot says.
func (c *counter) list(l []api.Node, at Spot) bool {
	for i, n := range l {
		at.Index = i
		number := c.next
		c.next++
		if !c.yield(number, stand{at, n}) || !c.inside(n, number, at) {
			return false
		}
	}
	return true
}

func (c *counter) inside(n api.Node, number int, at Spot) bool {
	at.Parent = number
	if !c.closures(n.Subs, at) {
		return false
	}
	at.Part = 1
	if !c.list(n.Body, at) {
		return false
	}
	at.Part = 2
	return c.list(n.Else, at)
}

// closures tells the statements of the closures in some expressions.
func (c *counter) closures(expressions []api.Node, at Spot) bool {
	at.Fn, at.Part = true, 3
	for _, n := range expressions {
		if !c.closuresOf(n, at) {
			return false
		}
	}
	return true
}

func (c *counter) closuresOf(n api.Node, at Spot) bool {
	if n.Kind == api.KiFn {
		return c.list(n.Body, at)
	}
	return c.closures(n.Subs, at)
}

// size returns how many statements a well formed program has.
func size(p api.Program) int {
	count := 0
	for range statements(p) {
		count++
	}
	return count
}

// find returns a statement of a program: the errors of At and Where.
func find(p api.Program, n int) (stand, api.Errno) {
	if e := Shape(p); e != api.OK {
		return stand{}, e
	}
	for i, s := range statements(p) {
		if i == n {
			return s, api.OK
		}
	}
	return stand{}, api.ErrNone
}

// Count returns how many statements a program has: P1.7.
func Count(p api.Program) int {
	if Shape(p) != api.OK {
		return 0
	}
	return size(p)
}

// At returns the statement with a number: P1.7.
func At(p api.Program, n int) (api.Node, api.Errno) {
	s, e := find(p, n)
	if e != api.OK {
		return api.Node{}, e
	}
	return copied([]api.Node{s.node})[0], api.OK
}

// Where tells where a statement stands: P1.7.
func Where(p api.Program, n int) (Spot, api.Errno) {
	s, e := find(p, n)
	if e != api.OK {
		return Spot{}, e
	}
	s.spot.Size = size(alone(s.node))
	return s.spot, api.OK
}

// Replace puts statements in the place of a statement: P1.8.
func Replace(p api.Program, n int, with []api.Node) (api.Program, api.Errno) {
	if _, e := find(p, n); e != api.OK {
		return api.Program{}, e
	}
	put := func(list []api.Node) api.Program {
		return edited(p, func(i int) ([]api.Node, bool) { return list, i == n })
	}
	// The copy comes last, because only a well formed list is known to be small.
	if e := Shape(put(with)); e != api.OK {
		return api.Program{}, e
	}
	return put(copied(with)), api.OK
}

// Keep leaves out statements: P1.8.
func Keep(p api.Program, keep []bool) (api.Program, api.Errno) {
	if e := Shape(p); e != api.OK {
		return api.Program{}, e
	}
	if len(keep) != size(p) {
		return api.Program{}, api.ErrArg
	}
	return edited(p, func(i int) ([]api.Node, bool) { return nil, !keep[i] }), api.OK
}

// editor copies statements of a well formed program. For a number, change returns what stands in the place of the statement, and true; or false if the statement stays.
type editor struct {
	change func(int) ([]api.Node, bool)
	next   int
}

func edited(p api.Program, change func(int) ([]api.Node, bool)) api.Program {
	x := editor{change: change}
	var q api.Program
	for _, f := range p.Funcs {
		q.Funcs = append(q.Funcs, api.Func{Name: f.Name, Params: slices.Clone(f.Params), Body: x.list(f.Body)})
	}
	return q
}

// copied returns a copy of statements that shares no memory with them.
func copied(l []api.Node) []api.Node {
	x := editor{change: func(int) ([]api.Node, bool) { return nil, false }}
	return x.list(l)
}

func (x *editor) list(l []api.Node) []api.Node {
	var out []api.Node
	for _, n := range l {
		if with, changed := x.change(x.next); changed {
			x.next += size(alone(n))
			out = append(out, with...)
			continue
		}
		x.next++
		out = append(out, x.node(n))
	}
	return out
}

// node copies a node, and edits the statements in it.
func (x *editor) node(n api.Node) api.Node {
	var subs []api.Node
	for _, s := range n.Subs {
		subs = append(subs, x.node(s))
	}
	n.Subs = subs
	n.Params = slices.Clone(n.Params)
	n.Body = x.list(n.Body)
	n.Else = x.list(n.Else)
	return n
}

package rank

import (
	"slices"

	"sleuth/api"
	"sleuth/lang"
)

// opening returns which one of the Subs of a statement is chosen if it is open, and whether it can be opened.
func opening(k api.Kind) (sub int, ok bool) {
	switch k {
	case api.KiLet, api.KiSet, api.KiPrint, api.KiReturn, api.KiIf, api.KiWhile:
		return 0, true
	case api.KiStore:
		return 2, true
	}
	return 0, false
}

// survey is what there is to know of the statements of a program.
type survey struct {
	clock    bool  // whether there is a KiClock
	openable []int // the statements that can be opened
	homes    []int // of each statement the one in whose closure it stands, or itself if it stands in none
}

// surveyed returns what there is to know of a program without a KiClock: the errors of Openable.
func surveyed(p api.Program) (survey, api.Errno) {
	if e := lang.Check(p); e != api.OK {
		return survey{}, e
	}
	var s survey
	for _, f := range p.Funcs {
		s.statements(f.Body, -1)
	}
	if s.clock {
		return survey{}, api.ErrScope
	}
	return s, api.OK
}

// statements looks at a list of statements, which stand in a closure of another one, or (-1) in none.
func (s *survey) statements(l []api.Node, home int) {
	for _, n := range l {
		number := len(s.homes)
		own := home
		if own < 0 {
			own = number
		}
		s.homes = append(s.homes, own)
		if _, ok := opening(n.Kind); ok {
			s.openable = append(s.openable, number)
		}
		s.expressions(n.Subs, own)
		s.statements(n.Body, home)
		s.statements(n.Else, home)
	}
}

// expressions looks at expressions; their closures count as those of a statement.
func (s *survey) expressions(l []api.Node, home int) {
	for _, n := range l {
		s.clock = s.clock || n.Kind == api.KiClock
		s.expressions(n.Subs, home)
		s.statements(n.Body, home)
	}
}

// Openable returns the statements that can be opened.
func Openable(p api.Program) ([]int, api.Errno) {
	s, e := surveyed(p)
	return s.openable, e
}

// Open returns the opened program for some statements.
func Open(p api.Program, at []int) (api.Program, api.Errno) {
	s, e := surveyed(p)
	if e != api.OK {
		return api.Program{}, e
	}
	if !isIncreasing(at) || !isSubset(at, s.openable) {
		return api.Program{}, api.ErrArg
	}
	q, _ := opened(p, at)
	return q, api.OK
}

// opener copies a program in which some statements are opened.
type opener struct {
	at   []int
	next int   // the number of the next statement
	kept []int // the numbers of those that are in the copy
}

// opened returns the opened program for some statements, and for each of its statements the number that it had.
func opened(p api.Program, at []int) (q api.Program, kept []int) {
	x := opener{at: at}
	for _, f := range p.Funcs {
		q.Funcs = append(q.Funcs, api.Func{Name: f.Name, Params: slices.Clone(f.Params), Body: x.statements(f.Body)})
	}
	return q, x.kept
}

func (x *opener) statements(l []api.Node) []api.Node {
	var out []api.Node
	for _, n := range l {
		chosen := -1
		if sub, ok := opening(n.Kind); ok && has(x.at, x.next) {
			chosen = sub
		}
		x.kept = append(x.kept, x.next)
		x.next++
		out = append(out, x.node(n, chosen))
	}
	return out
}

// node copies a node, and puts a KiClock in the place of the one of its Subs that is chosen, if there is one.
func (x *opener) node(n api.Node, chosen int) api.Node {
	var subs []api.Node
	for i, s := range n.Subs {
		if i == chosen {
			x.pass(s)
			subs = append(subs, api.Node{Kind: api.KiClock})
			continue
		}
		subs = append(subs, x.node(s, -1))
	}
	n.Subs = subs
	n.Params = slices.Clone(n.Params)
	n.Body = x.statements(n.Body)
	n.Else = x.statements(n.Else)
	return n
}

// pass leaves an expression out; the statements in it had numbers.
func (x *opener) pass(n api.Node) {
	kept := len(x.kept)
	x.node(n, -1)
	x.kept = x.kept[:kept]
}

package slice

import (
	"slices"

	"sleuth/api"
)

// exit is where a unit is over.
const exit = -1

// findLeads finds where all statements lead. Which of them may throw is known.
func (x *program) findLeads() {
	for _, body := range x.bodies {
		x.connect(body, exit, exit)
	}
}

// connect finds where the statements of a list lead, and those in them: next follows the list, and to handler a throw leads.
func (x *program) connect(l []int, next, handler int) {
	for i, n := range l {
		x.connectOne(x.statements[n], comesFirst(l[i+1:], next), handler)
	}
}

// comesFirst returns the statement that comes first in a list which next follows.
func comesFirst(l []int, next int) int {
	if len(l) == 0 {
		return next
	}
	return l[0]
}

// connectOne does for one statement what connect does for a list.
func (x *program) connectOne(s *statement, next, handler int) {
	if s.Throws {
		s.thrown = []int{handler}
	}
	follows, inBody := next, handler
	switch s.kind {
	case api.KiIf:
		s.ordinary = []int{comesFirst(s.body, next), comesFirst(s.other, next)}
	case api.KiWhile:
		follows = s.number
		s.ordinary = []int{comesFirst(s.body, follows), next}
	case api.KiTry:
		inBody = comesFirst(s.other, next)
		s.ordinary = []int{comesFirst(s.body, next)}
	case api.KiReturn:
		s.ordinary = []int{exit}
	case api.KiThrow:
	default:
		s.ordinary = []int{next}
	}
	slices.Sort(s.ordinary)
	s.ordinary = slices.Compact(s.ordinary)
	x.connect(s.body, follows, inBody)
	x.connect(s.other, next, handler)
}

// Leads returns to which statements a statement leads, and to which by a throw: P5.3.
func Leads(p api.Program, n int) (ordinary, thrown []int, e api.Errno) {
	x, e := readAt(p, n)
	if e != api.OK {
		return nil, nil, e
	}
	return x.statements[n].ordinary, x.statements[n].thrown, api.OK
}

// Reaching returns the definitions of a name that reach a statement: P5.3.
func Reaching(p api.Program, n int, name string) ([]int, api.Errno) {
	x, e := readAt(p, n)
	if e != api.OK {
		return nil, e
	}
	var definitions []int
	for _, d := range x.statements {
		if d.isDefinition() && d.Sets == name && x.reachedFrom(d).has(n) {
			definitions = append(definitions, d.number)
		}
	}
	return definitions, api.OK
}

// readAt reads a program for a function with a statement; ErrArg if there is no such statement.
func readAt(p api.Program, n int) (*program, api.Errno) {
	x, e := read(p)
	if e != api.OK {
		return nil, e
	}
	if !x.haveStatement(n) {
		return nil, api.ErrArg
	}
	return x, api.OK
}

// reachedFrom returns the statements that a definition reaches.
func (x *program) reachedFrom(d *statement) set[int] {
	return grown(len(x.statements), d.ordinary, func(n int) []int {
		s := x.statements[n]
		if s != d && s.isDefinition() && s.Sets == d.Sets {
			return s.thrown
		}
		return slices.Concat(s.ordinary, s.thrown)
	})
}

package slice

import (
	"slices"

	"sleuth/api"
	"sleuth/lang"
)

// program is what there is to know of a program in scope.
type program struct {
	functions  int
	bodies     [][]int // of each unit, the statements that stand directly in it
	statements []*statement
}

// statement is what there is to know of a statement.
type statement struct {
	Effect
	number   int
	kind     api.Kind
	function int
	body     []int    // the statements that stand directly in its Body
	other    []int    // and those in its Else
	ordinary []int    // to which it leads, and
	thrown   []int    // to which by a throw: ascending
	within   callee   // what its unit is, or is one of
	callees  []callee // what it calls and applies
}

// callee is what a statement may run: a function, by its number, or, as the number behind the last function, any closure.
type callee int

// isDefinition reports whether a statement is a definition of the name that it sets.
func (s *statement) isDefinition() bool { return s.kind == api.KiLet || s.kind == api.KiSet }

// isDeclaration reports whether a statement declares the name that it sets.
func (s *statement) isDeclaration() bool { return s.kind == api.KiLet || s.kind == api.KiTry }

// read returns a program in scope, or the error of Scope.
func read(p api.Program) (*program, api.Errno) {
	if e := Scope(p); e != api.OK {
		return nil, e
	}
	x := &program{functions: len(p.Funcs), bodies: make([][]int, len(p.Funcs))}
	r := reader{program: x, numbers: map[string]int{}}
	for i, f := range p.Funcs {
		r.numbers[f.Name] = i
	}
	for i, f := range p.Funcs {
		x.bodies[i] = r.list(f.Body, spot{function: i, unit: i, parent: -1})
	}
	x.findThrows()
	x.findLeads()
	return x, api.OK
}

// reader goes through a program in the order of the text, by which statements and closures are numbered.
type reader struct {
	*program
	numbers map[string]int // of the functions
}

// spot is where statements stand.
type spot struct{ function, unit, parent int }

// list reads statements, and returns their numbers.
func (r *reader) list(l []api.Node, at spot) []int {
	var numbers []int
	for _, n := range l {
		numbers = append(numbers, r.statement(n, at))
	}
	return numbers
}

// statement reads a statement with all that is in it, and returns its number.
func (r *reader) statement(n api.Node, at spot) int {
	s := &statement{number: len(r.statements), kind: n.Kind, function: at.function, within: callee(min(at.unit, r.functions))}
	s.Effect = Effect{
		Unit:   at.unit,
		Parent: at.parent,
		Reads:  lang.Reads(n),
		Sets:   n.Text, // which no other statements have
		Stores: n.Kind == api.KiStore,
		Jumps:  n.Kind == api.KiReturn || n.Kind == api.KiThrow,
	}
	r.statements = append(r.statements, s)
	r.expressions(n.Subs, s)
	slices.Sort(s.Calls)
	s.Calls = slices.Compact(s.Calls)
	at.parent = s.number
	s.body = r.list(n.Body, at)
	s.other = r.list(n.Else, at)
	return s.number
}

// expressions reads expressions of a statement, with the closures in them.
func (r *reader) expressions(l []api.Node, s *statement) {
	for _, n := range l {
		switch n.Kind {
		case api.KiLoad:
			s.Loads = true
		case api.KiInput:
			s.Inputs = true
		case api.KiClock:
			s.Clocks = true
		case api.KiCall:
			s.Calls = append(s.Calls, r.numbers[n.Text])
			s.callees = append(s.callees, callee(r.numbers[n.Text]))
		case api.KiApply:
			s.Applies = true
			s.callees = append(s.callees, callee(r.functions))
		case api.KiFn:
			unit := len(r.bodies)
			r.bodies = append(r.bodies, nil)
			r.bodies[unit] = r.list(n.Body, spot{s.function, unit, s.number})
		}
		r.expressions(n.Subs, s)
	}
}

// findThrows finds which statements may throw.
func (x *program) findThrows() {
	throwing := x.throwing()
	for _, s := range x.statements {
		s.Throws = s.kind == api.KiThrow || slices.ContainsFunc(s.callees, throwing.has)
	}
}

// throwing returns the functions that may throw, and whether closures may.
func (x *program) throwing() set[callee] {
	var first []callee
	callers := make([][]callee, x.functions+1)
	for _, s := range x.statements {
		if s.kind == api.KiThrow {
			first = append(first, s.within)
		}
		for _, c := range s.callees {
			callers[c] = append(callers[c], s.within)
		}
	}
	return grown(len(callers), first, func(c callee) []callee { return callers[c] })
}

package repair

import (
	"iter"
	"math"

	"sleuth/api"
	"sleuth/lang"
	"sleuth/learn"
)

// lists are lists of statements that may be put in the place of a statement. They share memory with the program.
type lists = iter.Seq[[]api.Node]

// candidate is an edit with the program that it makes.
type candidate struct {
	edit    api.Edit
	patched api.Program
}

// candidates tells the candidates for a statement among lists.
func (s subject) candidates(n int, l lists) iter.Seq[candidate] {
	return func(yield func(candidate) bool) {
		for with := range l {
			x := api.Edit{At: n, With: with}
			q, e := s.patched(patchOf(x))
			if e == api.OK && !yield(candidate{x, q}) {
				return
			}
		}
	}
}

func patchOf(x api.Edit) api.Patch { return api.Patch{Edits: []api.Edit{x}} }

// edits returns the edits of the candidates for a statement among lists, with memory of their own.
func (s subject) edits(n int, l lists) []api.Edit {
	var out []api.Edit
	for c := range s.candidates(n, l) {
		out = append(out, copiedEdit(c.edit))
	}
	return out
}

// subjectAt returns a program as a subject: the errors of lang.Check, and ErrNone if there is no statement n.
func subjectAt(p api.Program, n int) (subject, api.Errno) {
	s, e := subjectOf(p)
	if e == api.OK && !s.isStatement(n) {
		return subject{}, api.ErrNone
	}
	return s, e
}

// Templates returns the candidates that change one thing of a statement: P9.3.
func Templates(p api.Program, n int) ([]api.Edit, api.Errno) {
	s, e := subjectAt(p, n)
	if e != api.OK {
		return nil, e
	}
	return s.edits(n, s.templates(n)), api.OK
}

// templates tells statements that are one thing other than a statement, and then none.
func (s subject) templates(n int) lists {
	statement := s.statements[n]
	visible, _ := lang.Names(s.program, n)
	return func(yield func([]api.Node) bool) {
		for _, others := range [...]func(api.Node) []api.Node{otherOperations, otherNumbers, scope(visible).others} {
			for x, fill := range own(statement) {
				for _, other := range others(x) {
					if !yield([]api.Node{fill(other)}) {
						return
					}
				}
			}
		}
		if hasCondition(statement.Kind) {
			opposite := unary("!", statement.Subs[0])
			if !yield([]api.Node{hole{statement, 0, itself}.fill(opposite)}) {
				return
			}
		}
		yield(nil)
	}
}

// otherOperations returns an operation with the other operators of its class.
func otherOperations(n api.Node) []api.Node {
	if n.Kind != api.KiBinary {
		return nil
	}
	var l []api.Node
	from, behind := class(lang.Operator(n.Text))
	for operator := from; operator < behind; operator++ {
		if operators[operator] != n.Text {
			l = append(l, binary(n.Subs[0], operators[operator], n.Subs[1]))
		}
	}
	return l
}

// class returns which operators are of the class of an operator: from the first one to the one behind the last.
func class(operator int) (from, behind int) {
	switch {
	case operator < 5: // arithmetic
		return 0, 5
	case operator < 11: // comparisons
		return 5, 11
	}
	return 11, len(operators)
}

// otherNumbers returns the numbers beside a number that there are.
func otherNumbers(n api.Node) []api.Node {
	var l []api.Node
	if n.Kind == api.KiNum && n.Num < math.MaxInt64 {
		l = append(l, number(n.Num+1))
	}
	if n.Kind == api.KiNum && n.Num > 0 {
		l = append(l, number(n.Num-1))
	}
	return l
}

// scope is the names that may stand where another one does.
type scope []string

func (l scope) others(n api.Node) []api.Node {
	if n.Kind != api.KiName {
		return nil
	}
	var others []api.Node
	for _, s := range l {
		if s != n.Text {
			others = append(others, name(s))
		}
	}
	return others
}

func hasCondition(k api.Kind) bool {
	return k == api.KiIf || k == api.KiWhile || k == api.KiAssert
}

// Donors returns the candidates made of other statements: P9.3.
func Donors(p api.Program, n int) ([]api.Edit, api.Errno) {
	s, e := subjectAt(p, n)
	if e != api.OK {
		return nil, e
	}
	return s.edits(n, s.donors(n)), api.OK
}

// donors tells each statement apart from a statement, alone and ahead of that one.
func (s subject) donors(n int) lists {
	return func(yield func([]api.Node) bool) {
		for m, donor := range s.statements {
			if m == n || s.isInside(m, n) || s.isInside(n, m) {
				continue
			}
			if !yield([]api.Node{donor}) || !yield([]api.Node{donor, s.statements[n]}) {
				return
			}
		}
	}
}

// Guards returns the candidates that carry out a statement only if a claim is true: P9.3.
func Guards(p api.Program, c api.Contract) ([]api.Edit, api.Errno) {
	if e := learn.CheckContract(p, c); e != api.OK {
		return nil, e
	}
	s, e := subjectAt(p, c.At)
	if e != api.OK {
		return nil, e
	}
	return s.edits(c.At, s.guards(c)), api.OK
}

// guards tells the statement of a contract under the condition of each claim.
func (s subject) guards(c api.Contract) lists {
	return func(yield func([]api.Node) bool) {
		for _, x := range c.Claims {
			n, e := Condition(x, c.Names)
			if e == api.OK && !yield([]api.Node{{Kind: api.KiIf, Subs: []api.Node{n}, Body: []api.Node{s.statements[c.At]}}}) {
				return
			}
		}
	}
}

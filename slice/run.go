package slice

import (
	"slices"

	"sleuth/api"
	"sleuth/machine"
)

// printing is what a run came to, and which statements printed its output.
type printing struct {
	outcome api.Outcome
	lines   []int // of each number of the output; one more if the run ended in a fault of an OpPrint
}

// ran runs a program with one thread: the error of machine.New.
func ran(p api.Program, g api.Given, fuel int) (printing, api.Errno) {
	m, e := machine.New(p, g)
	if e != api.OK {
		return printing{}, e
	}
	var r printing
	for range fuel {
		i, e := m.Next(0)
		if e != api.OK { // the run is over
			break
		}
		if i.Op == api.OpPrint {
			r.lines = append(r.lines, i.Line)
		}
		m.Step()
	}
	r.outcome, e = m.Finish(0)
	return r, e
}

// of returns the numbers that a statement printed, in order.
func (r printing) of(n int) []int64 {
	var numbers []int64
	for i, number := range r.outcome.Out {
		if r.lines[i] == n {
			numbers = append(numbers, number)
		}
	}
	return numbers
}

// hasSame reports whether the run of a slice, whose statements have some numbers in the whole program, shows for some of them what the run of that program shows.
func (r printing) hasSame(whole printing, numbers, of []int) bool {
	if whole.outcome.End != api.EnDone {
		return true
	}
	if r.outcome.End != api.EnDone {
		return false
	}
	return !slices.ContainsFunc(of, func(n int) bool {
		return !slices.Equal(r.of(slices.Index(numbers, n)), whole.of(n))
	})
}

// Printed runs a program, and returns what one of its KiPrints printed, and the outcome: P5.8.
func Printed(p api.Program, g api.Given, fuel, n int) ([]int64, api.Outcome, api.Errno) {
	x, e := readAt(p, n)
	if e != api.OK {
		return nil, api.Outcome{}, e
	}
	if x.statements[n].kind != api.KiPrint || !isFuel(fuel) {
		return nil, api.Outcome{}, api.ErrArg
	}
	r, e := ran(p, g, fuel)
	if e != api.OK {
		return nil, api.Outcome{}, e
	}
	return r.of(n), r.outcome, api.OK
}

// Agree runs a program and the program of a slice, and reports whether both print the same there: P5.8.
func Agree(p api.Program, k Kind, of []int, g api.Given, fuel int) (bool, api.Errno) {
	q, numbers, e := Program(p, k, of)
	if e != api.OK {
		return false, e
	}
	if !isFuel(fuel) {
		return false, api.ErrArg
	}
	whole, e := ran(p, g, fuel)
	if e != api.OK {
		return false, e
	}
	part, e := ran(q, g, fuel)
	if e != api.OK {
		return false, e
	}
	return part.hasSame(whole, numbers, of), api.OK
}

func isFuel(n int) bool { return 0 <= n && n <= api.MaxSteps }

package rank

import (
	"slices"

	"sleuth/api"
	"sleuth/machine"
)

// inquiry is a question: with which choices does a program meet some tests?
type inquiry struct {
	program api.Program
	tests   []api.Test
	domain  []int64
	choices int
	fuel    int
}

// open returns the opened program for some statements: the errors of Explain.
func (q inquiry) open(at []int) (api.Program, api.Errno) {
	p, e := Open(q.program, at)
	switch {
	case e != api.OK:
	case len(q.domain) == 0 || !isIncreasing(q.domain):
		e = api.ErrArg
	case len(q.domain) > api.MaxDomain:
		e = api.ErrLimit
	case q.choices < 0:
		e = api.ErrArg
	case q.choices > api.MaxChoices:
		e = api.ErrLimit
	case !isFuel(q.fuel):
		e = api.ErrArg
	case len(q.tests) > api.MaxTests:
		e = api.ErrLimit
	default:
		e = checkTests(p, q.tests)
	}
	if e != api.OK {
		return api.Program{}, e
	}
	return p, api.OK
}

// checkTests returns the first error of tests that leave the clock values open.
func checkTests(p api.Program, tests []api.Test) api.Errno {
	for _, t := range tests {
		if len(t.Given.Clocks) > 0 {
			return api.ErrScope
		}
		if _, e := machine.New(p, t.Given); e != api.OK {
			return e
		}
	}
	return api.OK
}

// Explain looks for the choices with which the opened program meets all tests.
func Explain(p api.Program, at []int, tests []api.Test, domain []int64, choices, fuel int) (witness [][]int64, ok bool, e api.Errno) {
	q := inquiry{p, tests, domain, choices, fuel}
	open, e := q.open(at)
	if e != api.OK {
		return nil, false, e
	}
	for _, t := range tests {
		clocks, ok := q.witness(open, t, func(int) {})
		if !ok {
			return nil, false, api.OK
		}
		witness = append(witness, clocks)
	}
	return witness, true, api.OK
}

// witness returns the first choices with which an opened program meets a test, and true if there are any. It calls a function with the Line of each step that it looks at.
func (q inquiry) witness(p api.Program, t api.Test, look func(line int)) (clocks []int64, ok bool) {
	level := [][]int64{nil}
	for range q.choices + 1 {
		var longer [][]int64
		for _, clocks := range level {
			met, asks := q.attempt(p, t, clocks, look)
			if met {
				return clocks, true
			}
			if !asks {
				continue // whatever follows these choices is not read
			}
			for _, v := range q.domain {
				longer = append(longer, append(slices.Clip(clocks), v))
			}
		}
		level = longer
	}
	return nil, false
}

// attempt runs an opened program with some choices. It reports whether the run meets a test, and whether the run asks for one more choice instead; it leaves a run that can't meet the test any more.
func (q inquiry) attempt(p api.Program, t api.Test, clocks []int64, look func(line int)) (met, asks bool) {
	m, e := machine.New(p, api.Given{Inputs: t.Given.Inputs, Clocks: clocks, Picks: t.Given.Picks})
	if e != api.OK {
		return false, false
	}
	read := 0
	for range q.fuel {
		thread, ok := m.Pick()
		if !ok {
			break
		}
		i, _ := m.Next(thread)
		look(i.Line)
		if i.Op == api.OpClock {
			if read == len(clocks) {
				return false, true
			}
			read++
		}
		m.StepOf(thread)
		if i.Op == api.OpPrint && !begins(m, t.Out) {
			return false, false
		}
	}
	o, _ := m.Finish(0)
	return meets(o, t), false
}

// begins reports whether what a machine has printed so far is the beginning of an output.
func begins(m *machine.Machine, out []int64) bool {
	o, _ := m.Finish(0)
	return len(o.Out) <= len(out) && slices.Equal(o.Out, out[:len(o.Out)])
}

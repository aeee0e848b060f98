package repair

import (
	"iter"
	"slices"

	"sleuth/api"
	"sleuth/learn"
	"sleuth/machine"
	"sleuth/rank"
)

// bench is a program that is to be changed, and the suite by which that is judged.
type bench struct {
	subject
	suite api.Suite
	runs  [][]int64 // those within the bound
}

// benchOf returns a bench: the errors of CheckSuite.
func benchOf(p api.Program, s api.Suite) (bench, api.Errno) {
	runs, e := runsOf(p, s)
	if e != api.OK {
		return bench{}, e
	}
	x, e := subjectOf(p)
	return bench{x, s, runs}, e
}

// trial is a patched program that is judged.
type trial struct {
	bench
	after api.Program // the patched one
	moves []int       // what Moved says
}

// attempt returns the trial of a patch that makes a certain program.
func (b bench) attempt(x api.Patch, q api.Program) trial { return trial{b, q, b.moved(x)} }

// trialOf returns the trial of a patch: the errors of Judge.
func trialOf(p api.Program, x api.Patch, s api.Suite) (trial, api.Errno) {
	_, q, e := patched(p, x)
	if e != api.OK {
		return trial{}, e
	}
	b, e := benchOf(p, s)
	if e != api.OK {
		return trial{}, e
	}
	return b.attempt(x, q), api.OK
}

// failed tells the tests that the patched program does not meet.
func (t trial) failed(yield func(int) bool) {
	for n, test := range t.suite.Tests {
		if ok, _ := rank.Meets(t.after, test, t.suite.Fuel); !ok && !yield(n) {
			return
		}
	}
}

// contract returns a contract as one of the patched program, and whether it says anything about that. (Of a statement that has the number -1 none does.)
func (t trial) contract(n int) (c api.Contract, says bool) {
	c = t.suite.Contracts[n]
	c.At = t.moves[c.At]
	return c, learn.CheckContract(t.after, c) == api.OK
}

// lost tells the contracts that say nothing about the patched program.
func (t trial) lost(yield func(int) bool) {
	for n := range t.suite.Contracts {
		if _, says := t.contract(n); !says && !yield(n) {
			return
		}
	}
}

// broken tells the contracts that are broken, in the order in which the runs break them.
func (t trial) broken(yield func(int) bool) {
	var numbers []int
	var kept []api.Contract
	for n := range t.suite.Contracts {
		if c, says := t.contract(n); says {
			numbers, kept = append(numbers, n), append(kept, c)
		}
	}
	for g := range t.given {
		for len(kept) > 0 {
			b, broken, _, _ := learn.Keeps(t.after, kept, g, t.suite.Fuel)
			if !broken {
				break
			}
			if !yield(numbers[b.Contract]) {
				return
			}
			// The same run may break others, too.
			numbers, kept = slices.Delete(numbers, b.Contract, b.Contract+1), slices.Delete(kept, b.Contract, b.Contract+1)
		}
	}
}

// given tells what the runs of the tests, and those within the bound, are given.
func (t trial) given(yield func(api.Given) bool) {
	for _, test := range t.suite.Tests {
		if !yield(test.Given) {
			return
		}
	}
	for n := range t.runs {
		if !yield(t.bounded(n)) {
			return
		}
	}
}

// bounded returns what a run within the bound is given.
func (t trial) bounded(n int) api.Given { return api.Given{Inputs: t.runs[n]} }

// outcomes returns what a run within the bound comes to, before and after.
func (t trial) outcomes(n int) (before, after api.Outcome) {
	before, _ = machine.Run(t.program, t.bounded(n), t.suite.Fuel)
	after, _ = machine.Run(t.after, t.bounded(n), t.suite.Fuel)
	return before, after
}

func isSame(a, b api.Outcome) bool {
	return a.End == b.End && a.Fault == b.Fault && a.Value == b.Value && slices.Equal(a.Out, b.Out)
}

// changed tells the runs within the bound that come to something else.
func (t trial) changed(yield func(int) bool) {
	for n := range t.runs {
		if before, after := t.outcomes(n); !isSame(before, after) && !yield(n) {
			return
		}
	}
}

// worse tells those of some runs that passed before.
func (t trial) worse(runs <-chan int) iter.Seq[int] {
	return func(yield func(int) bool) {
		for n := range runs {
			v, _ := learn.Oracle(t.program, t.suite.Contracts, t.bounded(n), t.suite.Fuel)
			if v == api.VePass && !yield(n) {
				return
			}
		}
	}
}

// parting returns the first step of a run within the bound at which both programs are at different statements, or one run is over.
func (t trial) parting(n int) int {
	before, after := t.lines(t.program, n), t.lines(t.after, n)
	for step, line := range before {
		if line >= 0 {
			line = t.moves[line]
		}
		if step == len(after) || line != after[step] {
			return step
		}
	}
	return len(before)
}

// lines returns the Lines of the steps that a run within the bound takes of a program.
func (t trial) lines(p api.Program, n int) []int {
	var l []int
	m, e := machine.New(p, t.bounded(n))
	if e != api.OK {
		return nil
	}
	for range t.suite.Fuel {
		thread, ok := m.Pick()
		if !ok {
			break
		}
		i, _ := m.Next(thread)
		l = append(l, i.Line)
		m.Step()
	}
	return l
}

package record

import (
	"slices"

	"sleuth/api"
	"sleuth/machine"
)

// Shape tells whether a log is well formed: P3.2.
func Shape(l api.Log) api.Errno {
	switch {
	case len(l.Picks) > api.MaxSteps || len(l.Inputs) > api.MaxGiven || len(l.Clocks) > api.MaxGiven:
		return api.ErrLimit
	case !areSteps(l.Picks, l.Steps):
		return api.ErrForm
	}
	return api.OK
}

// areSteps reports whether the picks of a log are as they have to be, and come to so many steps.
func areSteps(picks []api.Pick, steps int) bool {
	sum, last := 0, -1
	for _, x := range picks {
		// Counts are held against what is left up to MaxSteps, because their sum could wrap around.
		if !isThread(x.Thread) || x.Thread == last || x.Count < 1 || x.Count > api.MaxSteps-sum {
			return false
		}
		sum += x.Count
		last = x.Thread
	}
	return sum == steps
}

// givenTo returns what the run of a log was given, but for the picks.
func givenTo(l api.Log) api.Given {
	return api.Given{Inputs: l.Inputs, Clocks: l.Clocks}
}

// replay makes the run of a log, and calls a function ahead of each step, with the number of its pick: the error of Check.
func replay(p api.Program, l api.Log, ahead func(m *machine.Machine, pick int)) api.Errno {
	m, e := machine.New(p, givenTo(l)) // its ErrLimit is one of Shape, too
	if e != api.OK {
		return e
	}
	if e := Shape(l); e != api.OK {
		return e
	}
	for i, x := range l.Picks {
		for range x.Count {
			ahead(m, i)
			if m.StepOf(x.Thread) != api.OK {
				return api.ErrState
			}
		}
	}
	switch s := m.State(); {
	case s.Inputs < len(l.Inputs) || s.Clocks < len(l.Clocks):
		return api.ErrState
	case machine.Sum(s) != l.Sum:
		return api.ErrSum
	}
	return api.OK
}

// Check tells whether a log is of a program: P3.2.
func Check(p api.Program, l api.Log) api.Errno {
	return replay(p, l, func(*machine.Machine, int) {})
}

// Given returns what a machine is to be given so that its scheduler repeats a log: P3.3.
func Given(p api.Program, l api.Log) (api.Given, api.Errno) {
	var places []uint8
	e := replay(p, l, func(m *machine.Machine, pick int) {
		places = append(places, uint8(slices.Index(m.Runnable(), l.Picks[pick].Thread)))
	})
	if e != api.OK {
		return api.Given{}, e
	}
	return api.Given{Inputs: slices.Clone(l.Inputs), Clocks: slices.Clone(l.Clocks), Picks: places}, api.OK
}

// Prefix returns the log of the first steps of a log's run: P3.5.
func Prefix(p api.Program, l api.Log, n int) (api.Log, api.Errno) {
	if e := Check(p, l); e != api.OK {
		return api.Log{}, e
	}
	if n < 0 || n > l.Steps {
		return api.Log{}, api.ErrArg
	}
	prefix, _, e := Follow(p, givenTo(l), l.Picks, n)
	return prefix, e
}

// Preemptions returns the picks of a log ahead of which another thread could have gone on: P3.6.
func Preemptions(p api.Program, l api.Log) ([]int, api.Errno) {
	var list []int
	before := 0
	e := replay(p, l, func(m *machine.Machine, pick int) {
		if pick != before && slices.Contains(m.Runnable(), l.Picks[before].Thread) {
			list = append(list, pick)
		}
		before = pick
	})
	if e != api.OK {
		return nil, e
	}
	return list, api.OK
}

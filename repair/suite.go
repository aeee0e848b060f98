package repair

import (
	"slices"

	"sleuth/api"
	"sleuth/lang"
	"sleuth/learn"
	"sleuth/machine"
)

// CheckSuite returns the first error of a suite: P9.2.
func CheckSuite(p api.Program, s api.Suite) api.Errno {
	_, e := runsOf(p, s)
	return e
}

// runsOf returns the inputs of the runs within the bound of a suite for a program: the errors of CheckSuite.
func runsOf(p api.Program, s api.Suite) ([][]int64, api.Errno) {
	if e := lang.Check(p); e != api.OK {
		return nil, e
	}
	switch {
	case s.Fuel < 0 || s.Fuel > api.MaxSteps:
		return nil, api.ErrArg
	case len(s.Tests) > api.MaxTests:
		return nil, api.ErrLimit
	}
	for _, t := range s.Tests {
		if _, e := machine.New(p, t.Given); e != api.OK {
			return nil, e
		}
	}
	if len(s.Contracts) > api.MaxContracts {
		return nil, api.ErrLimit
	}
	for _, c := range s.Contracts {
		if e := learn.CheckContract(p, c); e != api.OK {
			return nil, e
		}
	}
	return Runs(s)
}

// Runs returns the inputs of the runs within the bound: P9.2.
func Runs(s api.Suite) ([][]int64, api.Errno) {
	if e := checkBound(s); e != api.OK {
		return nil, e
	}
	runs := [][]int64{nil}
	for range s.Inputs {
		var longer [][]int64
		for _, l := range runs {
			for _, v := range s.Domain {
				longer = append(longer, append(slices.Clip(l), v))
			}
		}
		runs = longer
	}
	return runs, api.OK
}

func checkBound(s api.Suite) api.Errno {
	switch {
	case !isIncreasing(s.Domain):
		return api.ErrArg
	case len(s.Domain) > api.MaxDomain:
		return api.ErrLimit
	case s.Inputs < 0:
		return api.ErrArg
	case s.Inputs > api.MaxGiven:
		return api.ErrLimit
	}
	count := 1
	for range s.Inputs {
		count *= len(s.Domain)
		if count > api.MaxRuns {
			return api.ErrLimit
		}
	}
	return api.OK
}

func isIncreasing(l []int64) bool {
	for i := range l {
		if i > 0 && l[i-1] >= l[i] {
			return false
		}
	}
	return true
}

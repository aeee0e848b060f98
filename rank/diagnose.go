package rank

import (
	"slices"

	"sleuth/api"
)

// Diagnose returns all diagnoses up to a size.
func Diagnose(p api.Program, tests []api.Test, domain []int64, choices, fuel, size int) ([][]int, api.Errno) {
	q := inquiry{p, tests, domain, choices, fuel}
	_, e := q.open(nil)
	switch {
	case e != api.OK:
		return nil, e
	case size < 0:
		return nil, api.ErrArg
	case size > api.MaxCause:
		return nil, api.ErrLimit
	}
	q.tests = failingFirst(p, tests, fuel)
	s, e := surveyed(p)
	if e != api.OK {
		return nil, e
	}
	d := diagnoser{inquiry: q, survey: s}
	for more := range size + 1 {
		d.grow(nil, nil, more)
	}
	if len(d.found) > api.MaxSets {
		return nil, api.ErrLimit
	}
	slices.SortFunc(d.found, compareSets[int])
	return d.found, api.OK
}

// failingFirst puts the tests that a program does not meet first, because most sets of statements do not explain these.
func failingFirst(p api.Program, tests []api.Test, fuel int) []api.Test {
	var failing, passing []api.Test
	for _, t := range tests {
		if ok, _ := Meets(p, t, fuel); ok {
			passing = append(passing, t)
		} else {
			failing = append(failing, t)
		}
	}
	return slices.Concat(failing, passing)
}

// diagnoser is how far the search for diagnoses has come.
type diagnoser struct {
	inquiry
	survey
	found [][]int
}

// grow looks for the diagnoses that consist of a set of statements and of so many more, none of them barred. Those with fewer have been found: so whatever explains all tests and contains none of these is minimal.
func (d *diagnoser) grow(set, barred []int, more int) {
	if len(d.found) > api.MaxSets || hasSubset(d.found, set) {
		return
	}
	missing, ok := d.missing(set)
	if ok {
		d.found = append(d.found, set)
		return
	}
	if more == 0 {
		return
	}
	barred = slices.Clone(barred)
	for _, n := range missing {
		if !slices.Contains(barred, n) {
			d.grow(asSet(append(slices.Clip(set), n)), barred, more-1)
			barred = append(barred, n) // what has n, too, has been looked at: so no set is looked at twice
		}
	}
}

// missing returns true if a set of statements explains all tests, and otherwise statements one of which is in each larger set that does. These are the ones that the runs for a test came to: as long as a run comes to none of the further statements of a larger set, it is a run for that one, too. It comes to a statement in a closure where the closure is made, because what a closure holds depends on the statements in it.
func (d *diagnoser) missing(set []int) (l []int, ok bool) {
	open, kept := opened(d.program, set)
	for _, t := range d.tests {
		came := make([]bool, len(d.homes))
		_, ok := d.witness(open, t, func(line int) {
			if line >= 0 {
				came[kept[line]] = true
			}
		})
		if !ok {
			return slices.DeleteFunc(slices.Clone(d.openable), func(n int) bool {
				return has(set, n) || !has(kept, n) || !came[d.homes[n]]
			}), false
		}
	}
	return nil, true
}

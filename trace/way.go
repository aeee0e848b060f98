package trace

import (
	"slices"

	"sleuth/api"
)

// Feeds returns the reads by which a step's write of a place is fed: P4.3.
func (t *Trace) Feeds(n int, q api.Place) ([]api.Read, api.Errno) {
	if e := t.stepError(n); e != api.OK {
		return nil, e
	}
	s := &t.steps[n]
	w := slices.IndexFunc(s.Writes, func(w api.Write) bool { return w.Place == q })
	if w < 0 {
		return nil, api.ErrNone
	}
	return slices.Clone(s.feeding(w)), api.OK
}

// Origin returns the way on which the value of a place came there: P4.3.
func (t *Trace) Origin(n int, q api.Place) ([]int, api.Errno) {
	switch {
	case !t.isMade():
		return nil, api.ErrNil
	case !t.isState(n):
		return nil, api.ErrArg
	}
	var way []int
	for m, ok := t.last(n, q); ok; {
		way = append(way, m.step)
		reads := t.steps[m.step].feeding(m.write)
		if len(reads) != 1 {
			break
		}
		m, ok = t.last(m.step, reads[0].Place)
	}
	if len(way) == 0 {
		return nil, api.ErrNone
	}
	return way, api.OK
}

// Rerun carries out some steps once more: P4.6.
func (t *Trace) Rerun(steps []int) ([][]api.Write, api.Errno) {
	switch {
	case !t.isMade():
		return nil, api.ErrNil
	case !isAscending(steps):
		return nil, api.ErrArg
	}
	var rows [][]api.Write
	for _, n := range steps {
		if !t.isStep(n) {
			return nil, api.ErrNone
		}
		s := &t.steps[n]
		row := slices.Clone(s.Writes)
		for w := range row {
			reads := slices.Clone(s.feeding(w))
			if !t.refill(n, reads, steps, rows) {
				return nil, api.ErrNone
			}
			if len(reads) > 0 {
				row[w].Value = made(s.instr, reads)
			}
		}
		rows = append(rows, row)
	}
	return rows, api.OK
}

// refill gives reads of step n the values that the steps so far have computed, and reports whether these were among them.
func (t *Trace) refill(n int, reads []api.Read, steps []int, rows [][]api.Write) bool {
	for i, r := range reads {
		m, written := t.last(n, r.Place)
		if !written {
			continue
		}
		at, found := slices.BinarySearch(steps, m.step)
		if !found {
			return false
		}
		reads[i].Value = rows[at][m.write].Value
	}
	return true
}

// isAscending reports whether a list is strictly ascending.
func isAscending(list []int) bool {
	for i := range list {
		if i > 0 && list[i-1] >= list[i] {
			return false
		}
	}
	return true
}

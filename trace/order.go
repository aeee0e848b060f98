package trace

import (
	"maps"
	"slices"

	"sleuth/api"
)

// past is which steps are before a step: of each thread those ahead of a number.
type past [api.MaxThreads]int

func (p *past) add(q past) {
	for thread, n := range q {
		p[thread] = max(p[thread], n)
	}
}

// order finds what is before the step that is under way, and notes for what is to come that it has happened. Order between threads goes through the places that are read with RoOrder.
func (x *tracer) order() {
	s := &x.now
	own := whole(api.PlThread, s.Thread)
	p := x.pasts[own]
	for _, r := range s.Reads {
		if r.Role == api.RoOrder {
			p.add(x.pasts[r.Place])
		}
	}
	s.past = p
	p[s.Thread] = len(x.steps) + 1
	x.pasts[own] = p
	for _, w := range s.Writes {
		if w.Place.Kind == api.PlThread || w.Place.Kind == api.PlLock {
			x.pasts[w.Place] = p
		}
	}
}

// Before reports whether a step is before another one: P4.7.
func (t *Trace) Before(a, b int) bool {
	return t.isMade() && t.isStep(a) && t.isStep(b) && a < t.steps[b].past[t.steps[a].Thread]
}

// Races returns the first race at each cell that has one: P4.7.
func (t *Trace) Races() []api.Race {
	if !t.isMade() {
		return nil
	}
	accesses := map[api.Place][]int{}
	for n := range t.steps {
		if q, ok := t.steps[n].access(); ok {
			accesses[q] = append(accesses[q], n)
		}
	}
	var races []api.Race
	for _, q := range slices.SortedFunc(maps.Keys(accesses), inOrder) {
		if first, second, ok := t.race(accesses[q]); ok {
			races = append(races, api.Race{Place: q, First: first, Second: second})
		}
	}
	return races
}

// inOrder compares cells, by object and then by cell.
func inOrder(a, b api.Place) int { return slices.Compare([]int{a.A, a.B}, []int{b.A, b.B}) }

// access returns the cell that a step loads or stores; with a fault it does neither.
func (s *step) access() (api.Place, bool) {
	switch {
	case len(s.Writes) == 0:
		return api.Place{}, false
	case s.instr.Op == api.OpLoad:
		return s.Reads[len(s.Reads)-1].Place, true
	case s.instr.Op == api.OpStore:
		return s.Writes[0].Place, true
	}
	return api.Place{}, false
}

// race returns the first race among the accesses of a cell.
func (t *Trace) race(accesses []int) (first, second int, ok bool) {
	var all, stores [api.MaxThreads][]int // the accesses ahead of the second one, by threads
	for _, second := range accesses {
		s := &t.steps[second]
		isStore := s.instr.Op == api.OpStore
		against := stores
		if isStore {
			against = all
		}
		first, ok := len(t.steps), false
		for thread, steps := range against {
			if i, _ := slices.BinarySearch(steps, s.past[thread]); i < len(steps) {
				first, ok = min(first, steps[i]), true
			}
		}
		if ok {
			return first, second, true
		}
		all[s.Thread] = append(all[s.Thread], second)
		if isStore {
			stores[s.Thread] = append(stores[s.Thread], second)
		}
	}
	return 0, 0, false
}

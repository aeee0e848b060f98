package trace

import (
	"cmp"
	"slices"

	"sleuth/api"
)

func register(frame, n int) api.Place { return api.Place{Kind: api.PlReg, A: frame, B: n} }

// cell returns a cell of an object; both numbers are those of values.
func cell(object, n api.Value) api.Place {
	return api.Place{Kind: api.PlCell, A: int(object.N), B: int(n.N)}
}

// whole returns a place that an object, a thread, or a number of the output is.
func whole(kind api.PlaceKind, n int) api.Place { return api.Place{Kind: kind, A: n} }

func number(n int) api.Value { return api.Value{Kind: api.VaInt, N: int64(n)} }

// Value returns what a place has in a state: P4.2.
func (t *Trace) Value(n int, q api.Place) (api.Value, bool) {
	if !t.isMade() || !t.isState(n) {
		return api.Value{}, false
	}
	return t.value(n, q)
}

// Writer returns the last step ahead of a state that wrote a place: P4.2.
func (t *Trace) Writer(n int, q api.Place) int {
	switch {
	case !t.isMade():
		return 0
	case !t.isState(n):
		return -1
	}
	return t.writer(n, q)
}

// History returns all steps that wrote a place: P4.2.
func (t *Trace) History(q api.Place) []int {
	if !t.isMade() {
		return nil
	}
	var steps []int
	if m, ok := t.born(q); ok {
		steps = append(steps, m.step)
	}
	for _, m := range t.marks[q] {
		steps = append(steps, m.step)
	}
	return steps
}

// born returns where a register of a frame that a step made was written first.
func (t *Trace) born(q api.Place) (mark, bool) {
	if q.Kind != api.PlReg || !isWithin(q.A, len(t.frames)) || !isWithin(q.B, t.frames[q.A].registers) || t.frames[q.A].step < 0 {
		return mark{}, false
	}
	return mark{t.frames[q.A].step, q.B}, true // because what such a step writes begins with the registers
}

// last returns where a place was written last ahead of a state.
func (t *Trace) last(n int, q api.Place) (mark, bool) {
	marks := t.marks[q]
	if i, _ := slices.BinarySearchFunc(marks, n, func(m mark, n int) int { return cmp.Compare(m.step, n) }); i > 0 {
		return marks[i-1], true
	}
	if m, ok := t.born(q); ok && m.step < n {
		return m, true
	}
	return mark{}, false
}

func (t *Trace) writer(n int, q api.Place) int {
	if m, ok := t.last(n, q); ok {
		return m.step
	}
	return -1
}

func (t *Trace) value(n int, q api.Place) (api.Value, bool) {
	if m, ok := t.last(n, q); ok {
		return t.steps[m.step].Writes[m.write].Value, true
	}
	return t.unwritten(q)
}

// unwritten returns what a place holds as long as no step writes it.
func (t *Trace) unwritten(q api.Place) (api.Value, bool) {
	lists := t.given
	switch q.Kind {
	case api.PlReg:
		lists = t.first
		fallthrough
	case api.PlGiven:
		if isWithin(q.A, len(lists)) && isWithin(q.B, len(lists[q.A])) {
			return api.Value{Kind: api.VaInt, N: lists[q.A][q.B]}, true
		}
	}
	return api.Value{}, false
}

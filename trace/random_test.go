package trace_test

import (
	"maps"
	"math/rand"
	"slices"
	"testing"

	"sleuth/api"
	"sleuth/lang"
	"sleuth/record"
	"sleuth/trace"
)

// runs calls a function with the traces of random runs, and their models.
func runs(t *testing.T, count, fuel int, each func(r run, m *model)) {
	t.Helper()
	for seed := range count {
		m := &maker{Rand: rand.New(rand.NewSource(int64(seed)))}
		text := m.text()
		p := parsed(t, text)
		l, o, e := record.Record(p, m.given(), fuel)
		if e != api.OK {
			t.Fatalf("Record: error %d: %s", e, text)
		}
		each(run{traced(t, p, l), p, l, o}, modelOf(t, p, l))
		if t.Failed() {
			t.Fatalf("in the run %d of %s", seed, text)
		}
	}
}

// P4.1: the events of random runs are what the states say.
func TestRandomEvents(t *testing.T) {
	type kind struct {
		op     api.Op
		faults bool
	}
	seen, ends := map[kind]int{}, map[api.End]int{}
	runs(t, 800, 160, func(r run, m *model) {
		ends[r.outcome.End]++
		if r.Len() != len(m.steps) || r.Len() != r.log.Steps {
			t.Fatalf("%d steps, not %d", r.Len(), len(m.steps))
		}
		for n, s := range m.steps {
			seen[kind{s.instr.Op, s.faults}]++
			if v := r.event(t, n); !sameEvent(v, s.Event) {
				t.Fatalf("step %d: %+v, not %+v", n, v, s.Event)
			}
		}
	})
	for op := api.OpConst; op <= api.OpAssert; op++ {
		if seen[kind{op, false}] < 20 {
			t.Errorf("only %d steps of the operation %d", seen[kind{op, false}], op)
		}
	}
	for end := api.EnDone; end <= api.EnFuel; end++ {
		if ends[end] < 3 {
			t.Errorf("only %d runs with the end %d", ends[end], end)
		}
	}
}

// P4.1, P4.8: whatever a step changes is written by it.
func TestRandomChanges(t *testing.T) {
	runs(t, 150, 160, func(r run, m *model) {
		x, e := record.Open(r.program, r.log, 16)
		if e != api.OK {
			t.Fatalf("Open: error %d", e)
		}
		for n := range m.steps {
			l, _ := x.Changes(n)
			v := r.event(t, n)
			for _, w := range l {
				if !slices.Contains(v.Writes, w) {
					t.Fatalf("step %d: %v is not among the writes %v", n, w, v.Writes)
				}
			}
		}
	})
}

// places returns all places that a run reads and writes, and some that it does not.
func (m *model) places() []api.Place {
	set := map[api.Place]bool{}
	for kind := range api.PlGiven + 2 {
		for a := -1; a < 4; a++ {
			for b := -1; b < 12; b++ {
				set[api.Place{Kind: kind, A: a, B: b}] = true
			}
		}
	}
	for _, s := range m.steps {
		for _, x := range s.Reads {
			set[x.Place] = true
		}
		for _, x := range s.Writes {
			set[x.Place] = true
		}
	}
	return slices.SortedFunc(maps.Keys(set), func(a, b api.Place) int {
		return slices.Compare([]int{int(a.Kind), a.A, a.B}, []int{int(b.Kind), b.A, b.B})
	})
}

// history returns the writes of a place, by their steps.
func (m *model) history(q api.Place) (steps []int, values []api.Value) {
	for n, s := range m.steps {
		for _, w := range s.Writes {
			if w.Place == q {
				steps = append(steps, n)
				values = append(values, w.Value)
			}
		}
	}
	return steps, values
}

// unwritten returns what a place has as long as nothing wrote it.
func (m *model) unwritten(q api.Place) (api.Value, bool) {
	switch {
	case q.Kind == api.PlReg && q.A == 0 && q.B >= 0 && q.B < m.code.Chunks[m.code.Main].Regs:
		return api.Value{}, true
	case q.Kind == api.PlGiven && q.A == 0 && q.B >= 0 && q.B < len(m.log.Inputs):
		return num(m.log.Inputs[q.B]), true
	case q.Kind == api.PlGiven && q.A == 1 && q.B >= 0 && q.B < len(m.log.Clocks):
		return num(m.log.Clocks[q.B]), true
	}
	return api.Value{}, false
}

// P4.2: values, writers and histories of all places at all states.
func TestRandomPlaces(t *testing.T) {
	runs(t, 120, 100, func(r run, m *model) {
		for _, q := range m.places() {
			steps, values := m.history(q)
			if l := r.History(q); !slices.Equal(l, steps) {
				t.Errorf("History of %v: %v, not %v", q, l, steps)
			}
			for n := -2; n <= r.Len()+2; n++ {
				writer := -1
				value, ok := m.unwritten(q)
				for i, s := range steps {
					if s < n {
						writer, value, ok = s, values[i], true
					}
				}
				if n < 0 || n > r.Len() {
					writer, value, ok = -1, api.Value{}, false
				}
				if w := r.Writer(n, q); w != writer {
					t.Fatalf("Writer(%d, %v): %d, not %d", n, q, w, writer)
				}
				if v, has := r.Value(n, q); v != value || has != ok {
					t.Fatalf("Value(%d, %v): %v, %t, not %v, %t", n, q, v, has, value, ok)
				}
			}
		}
	})
}

// P4.3: which reads feed all writes, and where all values come from.
func TestRandomOrigins(t *testing.T) {
	longest := 0
	runs(t, 150, 100, func(r run, m *model) {
		for n, s := range m.steps {
			for w, x := range s.Writes {
				var want []api.Read
				for _, i := range s.feeds[w] {
					want = append(want, s.Reads[i])
				}
				if l, e := r.Feeds(n, x.Place); e != api.OK || !slices.Equal(l, want) {
					t.Fatalf("Feeds(%d, %v): error %d, %v, not %v", n, x.Place, e, l, want)
				}
			}
			for _, x := range s.Reads {
				if l, e := r.Feeds(n, x.Place); !s.writesTo(x.Place) && (e != api.ErrNone || len(l) > 0) {
					t.Fatalf("Feeds(%d, %v): error %d, %v", n, x.Place, e, l)
				}
			}
		}
		for _, q := range m.places() {
			for n := 0; n <= r.Len(); n++ {
				want := m.origin(n, q)
				longest = max(longest, len(want))
				l, e := r.Origin(n, q)
				if !slices.Equal(l, want) || (e == api.OK) != (len(want) > 0) || e != api.OK && e != api.ErrNone {
					t.Fatalf("Origin(%d, %v): error %d, %v, not %v", n, q, e, l, want)
				}
			}
		}
	})
	if longest < 12 {
		t.Errorf("the longest way has %d steps", longest)
	}
}

func (m *model) origin(n int, q api.Place) []int {
	var way []int
	for n = m.lastWriter(n, q); n >= 0; {
		way = append(way, n)
		s := m.steps[n]
		fed := s.feeds[slices.IndexFunc(s.Writes, func(w api.Write) bool { return w.Place == q })]
		if len(fed) != 1 {
			break
		}
		q, n = s.Reads[fed[0]].Place, s.Reads[fed[0]].From
	}
	return way
}

// P4.4, P4.5: lines, and how often statements begin.
func TestRandomLines(t *testing.T) {
	runs(t, 300, 160, func(r run, m *model) {
		times, lines := map[int]int{}, map[int]bool{}
		for _, s := range m.steps {
			code := m.code.Chunks[s.Chunk].Code
			if s.Line >= 0 {
				lines[s.Line] = true
			}
			if !slices.ContainsFunc(code[:s.PC], func(i api.Instr) bool { return i.Line == s.Line }) {
				times[s.Line]++
			}
		}
		times[-1] = 0
		if l := r.Lines(); !slices.Equal(l, slices.Sorted(maps.Keys(lines))) {
			t.Errorf("Lines: %v", l)
		}
		for line := -2; line < lang.Count(r.program)+2; line++ {
			if n := r.Times(line); n != times[line] {
				t.Errorf("Times(%d): %d, not %d", line, n, times[line])
			}
		}
	})
}

// P4.5: all slices of random runs.
func TestRandomSlices(t *testing.T) {
	larger := map[trace.Kind]int{}
	runs(t, 250, 90, func(r run, m *model) {
		for n := range m.steps {
			size := 0
			for k := trace.Thin; k <= trace.Relevant; k++ {
				want := m.slice(n, k)
				if l := r.slice(t, n, k); !slices.Equal(l, want) {
					t.Fatalf("Slice(%d, %d): %v, not %v", n, k, l, want)
				}
				if len(want) > size {
					larger[k]++
				}
				size = len(want)
			}
		}
	})
	for k := trace.Data; k <= trace.Relevant; k++ {
		if larger[k] < 300 {
			t.Errorf("only %d slices of the kind %d have more than those of the kind below", larger[k], k)
		}
	}
}

// P4.6, P4.8: rerunning a slice returns the writes of its steps.
func TestRandomReruns(t *testing.T) {
	runs(t, 150, 160, func(r run, m *model) {
		for n := range m.steps {
			for k := trace.Thin; k <= trace.Relevant; k++ {
				checkRerun(t, r, m, r.slice(t, n, k))
			}
		}
		checkRerun(t, r, m, until(r.Len()))
	})
}

// checkRerun checks that steps can be carried out once more, and write what they wrote.
func checkRerun(t *testing.T, r run, m *model, steps []int) {
	t.Helper()
	rows, e := r.Rerun(steps)
	if e != api.OK || len(rows) != len(steps) {
		t.Fatalf("Rerun(%v): error %d, %d rows", steps, e, len(rows))
	}
	for i, n := range steps {
		if !slices.Equal(rows[i], m.steps[n].Writes) {
			t.Fatalf("Rerun(%v): step %d: %v, not %v", steps, n, rows[i], m.steps[n].Writes)
		}
	}
}

// P4.6: of any steps, Rerun returns the writes, or ErrNone if what feeds one is missing.
func TestRandomLists(t *testing.T) {
	r := rand.New(rand.NewSource(1))
	accepted, refused := 0, 0
	runs(t, 400, 60, func(x run, m *model) {
		for range 10 {
			steps := until(x.Len())
			for range 1 + r.Intn(max(1, len(steps))) {
				if len(steps) > 0 {
					i := r.Intn(len(steps))
					steps = slices.Delete(steps, i, i+1)
				}
			}
			if m.isClosed(steps) {
				accepted++
				checkRerun(t, x, m, steps)
				continue
			}
			refused++
			if rows, e := x.Rerun(steps); e != api.ErrNone || len(rows) > 0 {
				t.Fatalf("Rerun(%v): error %d, %v", steps, e, rows)
			}
		}
	})
	if accepted < 200 || refused < 200 {
		t.Errorf("%d lists accepted, %d refused", accepted, refused)
	}
}

// isClosed reports whether all values that feed a write come from the steps.
func (m *model) isClosed(steps []int) bool {
	for _, n := range steps {
		for _, fed := range m.steps[n].feeds {
			for _, i := range fed {
				if from := m.steps[n].Reads[i].From; from >= 0 && !slices.Contains(steps, from) {
					return false
				}
			}
		}
	}
	return true
}

// P4.7: which steps are before which, and where steps race.
func TestRandomOrder(t *testing.T) {
	racing, across := 0, 0
	runs(t, 400, 160, func(r run, m *model) {
		before := m.order()
		for b := range m.steps {
			for a := range m.steps {
				if r.Before(a, b) != before[b][a] {
					t.Fatalf("Before(%d, %d): %t", a, b, !before[b][a])
				}
				if before[b][a] && m.steps[a].Thread != m.steps[b].Thread {
					across++
				}
			}
		}
		want := m.races()
		racing += len(want)
		if l := r.Races(); !slices.Equal(l, want) {
			t.Fatalf("Races: %v, not %v", l, want)
		}
	})
	if racing < 30 || across < 10000 {
		t.Errorf("%d races, %d pairs of two threads", racing, across)
	}
}

// P4.8: slices of a kind are in those of the next one, and do not depend on what comes behind their step.
func TestRandomPrefixes(t *testing.T) {
	runs(t, 60, 120, func(r run, _ *model) {
		for n := 1; n <= r.Len(); n += 7 {
			l, e := record.Prefix(r.program, r.log, n)
			if e != api.OK {
				t.Fatalf("Prefix: error %d", e)
			}
			prefix := run{Trace: traced(t, r.program, l)}
			if prefix.Len() != n {
				t.Fatalf("%d steps, not %d", prefix.Len(), n)
			}
			for s := range n {
				smaller := []int{}
				for k := trace.Thin; k <= trace.Relevant; k++ {
					whole := r.slice(t, s, k)
					if l := prefix.slice(t, s, k); !slices.Equal(l, whole) {
						t.Fatalf("Slice(%d, %d) of the first %d steps: %v, not %v", s, k, n, l, whole)
					}
					if slices.ContainsFunc(smaller, func(s int) bool { return !slices.Contains(whole, s) }) {
						t.Fatalf("Slice(%d, %d): %v is not in %v", s, k, smaller, whole)
					}
					smaller = whole
				}
			}
		}
	})
}

// P4.8: what a step writes is what Value tells behind it.
func TestRandomValues(t *testing.T) {
	runs(t, 200, 160, func(r run, m *model) {
		for n := range m.steps {
			for _, w := range r.event(t, n).Writes {
				if v, ok := r.Value(n+1, w.Place); !ok || v != w.Value || r.Writer(n+1, w.Place) != n {
					t.Fatalf("step %d writes %v, behind it there is %v", n, w, v)
				}
			}
		}
	})
}

// P4.8: a run of one thread has no races, and each of its steps is before all later ones.
func TestRandomOneThread(t *testing.T) {
	single := 0
	runs(t, 400, 100, func(r run, m *model) {
		if len(m.states[r.Len()].Threads) > 1 {
			return
		}
		single++
		if l := r.Races(); len(l) > 0 {
			t.Errorf("races: %v", l)
		}
		for a := range r.Len() {
			for b := range r.Len() {
				if r.Before(a, b) != (a < b) {
					t.Fatalf("Before(%d, %d): %t", a, b, a >= b)
				}
			}
		}
	})
	if single < 50 {
		t.Errorf("only %d runs of one thread", single)
	}
}

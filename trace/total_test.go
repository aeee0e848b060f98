package trace_test

import (
	"fmt"
	"math/rand"
	"slices"
	"testing"

	"sleuth/api"
	"sleuth/record"
	"sleuth/trace"
)

// R3: what a nil trace answers, and one that Of did not return.
func TestNil(t *testing.T) {
	q := reg(0, 0)
	for _, x := range []*trace.Trace{nil, {}, new(trace.Trace)} {
		for _, n := range []int{-1, 0, 1} {
			if v, e := x.Event(n); e != api.ErrNil || !isEmptyEvent(v) {
				t.Errorf("Event: error %d, %+v", e, v)
			}
			if v, ok := x.Value(n, q); ok || v != (api.Value{}) {
				t.Errorf("Value: %v, %t", v, ok)
			}
			if w := x.Writer(n, q); w != 0 {
				t.Errorf("Writer: %d", w)
			}
			if l, e := x.Feeds(n, q); e != api.ErrNil || len(l) > 0 {
				t.Errorf("Feeds: error %d, %v", e, l)
			}
			if l, e := x.Origin(n, q); e != api.ErrNil || len(l) > 0 {
				t.Errorf("Origin: error %d, %v", e, l)
			}
			if l, e := x.Slice(n, trace.Kind(n+4)); e != api.ErrNil || len(l) > 0 {
				t.Errorf("Slice: error %d, %v", e, l)
			}
			if l, e := x.Rerun([]int{n, n}); e != api.ErrNil || len(l) > 0 {
				t.Errorf("Rerun: error %d, %v", e, l)
			}
			if x.Times(n) != 0 || x.Before(n, n+1) || len(x.Statements([]int{n})) > 0 {
				t.Errorf("%d: there is something in it", n)
			}
		}
		if l, e := x.Rerun(nil); e != api.ErrNil || len(l) > 0 {
			t.Errorf("Rerun: error %d, %v", e, l)
		}
		if x.Len() != 0 || len(x.History(q)) > 0 || len(x.Lines()) > 0 || len(x.Races()) > 0 {
			t.Error("there is something in it")
		}
	}
}

// told returns all that a trace tells, as a text.
func (r run) told(t *testing.T) string {
	t.Helper()
	s := fmt.Sprintln(r.Len(), r.Lines(), r.Races(), r.Times(0), r.Statements(until(r.Len())))
	for n := range r.Len() {
		v := r.event(t, n)
		s += fmt.Sprintln(n, v)
		for _, w := range v.Writes {
			feeds, _ := r.Feeds(n, w.Place)
			origin, _ := r.Origin(n+1, w.Place)
			value, _ := r.Value(n+1, w.Place)
			s += fmt.Sprintln(w, feeds, origin, value, r.Writer(n+1, w.Place), r.History(w.Place))
		}
		for k := trace.Thin; k <= trace.Relevant; k++ {
			s += fmt.Sprintln(r.slice(t, n, k), r.Before(n, n+3))
		}
	}
	input, _ := r.Value(0, givenOf(0, 0))
	clock, _ := r.Value(0, givenOf(1, 0))
	rows, _ := r.Rerun(until(r.Len()))
	return s + fmt.Sprintln(input, clock, rows)
}

// shared is a program of two threads that has races, given values, and steps that feed others in all ways.
const shared = "fun f(o, a) { let g = fn (b) { return b + a; }; o[0] = g.(input); return o; } fun main() { let o = new(2); let t = spawn f(o, clock); if o[0] { o[0] = 4; } else { o[1] = o[0]; } join t; print o[0] + o[1]; }"

// sharedRun returns the trace of a run of shared.
func sharedRun(t *testing.T) run {
	t.Helper()
	r := followed(t, shared, "0*9 1*9 0*9 1*99", api.Given{Inputs: []int64{5}, Clocks: []int64{7}})
	if r.outcome.End != api.EnDone || len(r.Races()) != 1 {
		t.Fatalf("%+v, %v", r.outcome, r.Races())
	}
	return r
}

// R4: a trace keeps the content of what it was made of, and shares no memory with it; that is not changed.
func TestOfApart(t *testing.T) {
	r := sharedRun(t)
	want := r.told(t)
	p := parsed(t, shared)
	l := r.log
	l.Picks, l.Inputs, l.Clocks = slices.Clone(l.Picks), slices.Clone(l.Inputs), slices.Clone(l.Clocks)
	x := run{Trace: traced(t, p, l)}
	if !slices.Equal(l.Picks, r.log.Picks) || !slices.Equal(l.Inputs, r.log.Inputs) || !slices.Equal(l.Clocks, r.log.Clocks) || fmt.Sprint(p) != fmt.Sprint(r.program) {
		t.Error("the arguments of Of change")
	}
	clear(l.Picks)
	clear(l.Inputs)
	clear(l.Clocks)
	for i := range p.Funcs {
		spoilNodes(p.Funcs[i].Body)
		clear(p.Funcs[i].Params)
	}
	clear(p.Funcs)
	if s := x.told(t); s != want {
		t.Error("a trace changes with what it was made of")
	}
}

func spoilNodes(l []api.Node) {
	for i, n := range l {
		spoilNodes(n.Subs)
		spoilNodes(n.Body)
		spoilNodes(n.Else)
		l[i] = api.Node{Kind: 99, Text: "x", Num: -1}
	}
}

// R4: what a trace returns is new memory, and lists that it is given are not changed.
func TestResultsApart(t *testing.T) {
	r := sharedRun(t)
	want := r.told(t)
	for n := range r.Len() {
		v := r.event(t, n)
		for _, w := range v.Writes {
			feeds, _ := r.Feeds(n, w.Place)
			clear(feeds[:cap(feeds)])
			origin, _ := r.Origin(n+1, w.Place)
			spoil(origin)
			spoil(r.History(w.Place))
		}
		clear(v.Reads[:cap(v.Reads)])
		clear(v.Writes[:cap(v.Writes)])
		for k := trace.Thin; k <= trace.Relevant; k++ {
			spoil(r.slice(t, n, k))
		}
	}
	steps := slices.Concat(until(r.Len()), []int{-7, -7})[:r.Len()]
	rows, _ := r.Rerun(steps)
	for i, row := range rows {
		clear(row[:cap(row)])
		rows[i] = nil
	}
	spoil(r.Statements(steps))
	spoil(r.Lines())
	races := r.Races()
	clear(races[:cap(races)])
	if !slices.Equal(steps[:cap(steps)][:r.Len()+2], slices.Concat(until(r.Len()), []int{-7, -7})) {
		t.Error("a list that was handed in changes")
	}
	if s := r.told(t); s != want {
		t.Error("a trace changes with what it returned")
	}
	if s := sharedRun(t).told(t); s != want {
		t.Error("another trace of the same log tells something else")
	}
}

// spoil overwrites all memory that a list has.
func spoil(l []int) {
	for i := range l[:cap(l)] {
		l[:cap(l)][i] = -99
	}
}

// P0.1: nothing panics, whatever is asked.
func TestTotal(t *testing.T) {
	r := rand.New(rand.NewSource(8))
	odd := func() int {
		return []int{0, 1, 2, 5, 20, 60, -1, -2, api.MaxSteps, 1 << 31, 1 << 62, -1 << 63, 1<<63 - 1}[r.Intn(13)]
	}
	runs(t, 150, 60, func(x run, _ *model) {
		for range 40 {
			q := api.Place{Kind: api.PlaceKind(r.Intn(10)), A: odd(), B: odd()}
			if r.Intn(9) == 0 {
				q.Kind = api.PlaceKind(r.Intn(256))
			}
			n := odd()
			steps := []int{odd(), odd(), odd()}[:r.Intn(4)]
			_, e := x.Event(n)
			if isStep := n >= 0 && n < x.Len(); (e == api.OK) != isStep {
				t.Errorf("Event(%d): error %d", n, e)
			}
			_, isHeld := x.Value(n, q)
			w := x.Writer(n, q)
			if w < -1 || w >= x.Len() || w >= 0 && !isHeld {
				t.Errorf("Writer(%d, %v): %d, %t", n, q, w, isHeld)
			}
			x.History(q)
			x.Feeds(n, q)
			x.Origin(n, q)
			x.Times(n)
			x.Slice(n, trace.Kind(r.Intn(256)))
			x.Statements(steps)
			x.Before(n, odd())
			if rows, e := x.Rerun(steps); e != api.OK && len(rows) > 0 {
				t.Errorf("Rerun(%v): error %d, %v", steps, e, rows)
			}
		}
	})
}

// P0.1, P4.1: logs with any fields are refused as record.Check refuses them.
func TestTotalLogs(t *testing.T) {
	r := rand.New(rand.NewSource(9))
	programs := []api.Program{{}, {Funcs: []api.Func{{Name: "main", Body: []api.Node{{Kind: 99}}}}}, parsed(t, shared), parsed(t, example)}
	number := func() int {
		return []int{0, 1, 2, 3, 8, -1, api.MaxSteps, api.MaxSteps + 1, 1 << 62, -1 << 63, 1<<63 - 1}[r.Intn(11)]
	}
	for range 2000 {
		p := programs[r.Intn(len(programs))]
		l := api.Log{Steps: number(), Sum: r.Uint64()}
		for range r.Intn(4) {
			l.Picks = append(l.Picks, api.Pick{Thread: number(), Count: number()})
			l.Inputs = append(l.Inputs, int64(number()))
		}
		if r.Intn(2) == 0 {
			l.Steps = 0
			for _, x := range l.Picks {
				l.Steps += x.Count
			}
		}
		if x, e := trace.Of(p, l); e == api.OK || e != record.Check(p, l) || x != nil {
			t.Fatalf("%+v: error %d", l, e)
		}
	}
}

package record_test

import (
	"math/rand"
	"slices"
	"testing"

	"sleuth/api"
	"sleuth/machine"
	"sleuth/record"
)

// stands checks that a player is at a state of a history.
func stands(t *testing.T, r *record.Player, h history, n int) {
	t.Helper()
	if r.At() != n {
		t.Errorf("at %d, not %d", r.At(), n)
	}
	if !machine.Same(r.State(), h.states[n]) {
		t.Errorf("state %d is %+v, not %+v", n, r.State(), h.states[n])
	}
}

// sometime returns a log with several threads, inputs and clock values, and its run.
func sometime(t *testing.T) (api.Program, api.Log, history) {
	t.Helper()
	p := parsed(t, texts()[4])
	g := api.Given{Inputs: []int64{1, 2, 3, 4, 5}, Clocks: []int64{10, 20, 30, 40, 50}}
	l, o := followed(t, p, g, turns("0*9 1*5 2*3 1*9 0*7 2*20 0*9 1*4 2*6"), 999)
	if o.End != api.EnDone || l.Steps < 100 || len(l.Picks) < 8 {
		t.Fatalf("%+v, %+v", l, o)
	}
	return p, l, replayed(t, p, l)
}

// P3.8: where a player begins, and the errors of Open (those of Check: TestRefused).
func TestOpen(t *testing.T) {
	p, l, h := sometime(t)
	for _, every := range []int{1, 2, 7, l.Steps, l.Steps + 1, api.MaxSteps} {
		r := opened(t, p, l, every)
		stands(t, r, h, 0)
		if r.Len() != l.Steps {
			t.Errorf("every %d: %d steps", every, r.Len())
		}
	}
	for _, every := range []int{0, -1, api.MaxSteps + 1, -1 << 63, 1<<63 - 1} {
		if r, e := record.Open(p, l, every); e != api.ErrArg || r != nil {
			t.Errorf("every %d: error %d", every, e)
		}
	}
}

// P3.8, P3.9, P3.10, P3.11: a player of no steps.
func TestOpenNoSteps(t *testing.T) {
	p := parsed(t, "fun main() { }")
	h := scheduled(t, p, api.Given{}, 0)
	for _, every := range []int{1, 5, api.MaxSteps} {
		r := opened(t, p, h.log(0), every)
		if r.Len() != 0 || !slices.Equal(r.Marks(), []int{0}) || r.Forward() != api.ErrNone || r.Back() != api.ErrNone || r.Goto(0) != api.OK || r.Goto(1) != api.ErrArg {
			t.Errorf("every %d", every)
		}
		stands(t, r, h, 0)
		if n, e := r.Thread(0); n != 0 || e != api.ErrNone {
			t.Errorf("Thread: %d, error %d", n, e)
		}
		if l, e := r.Changes(0); len(l) != 0 || e != api.ErrNone {
			t.Errorf("Changes: %v, error %d", l, e)
		}
		if n, ok := r.First(watch(func(api.State) bool { return false })); n != 0 || !ok {
			t.Errorf("First: %d, %t", n, ok)
		}
		if n, ok := r.Last(watch(func(api.State) bool { return true })); n != 0 || !ok {
			t.Errorf("Last: %d, %t", n, ok)
		}
	}
}

// P3.8: a player keeps the content of what it was opened with, and shares no memory with it.
func TestOpenApart(t *testing.T) {
	p, l, h := sometime(t)
	k, before := cloneLog(l), cloneLog(l)
	r := opened(t, p, k, 9)
	if !sameLog(k, before) {
		t.Fatalf("Open changes its argument: %+v", k)
	}
	spoilLog(k)
	for i := range p.Funcs {
		clear(p.Funcs[i].Body)
		clear(p.Funcs[i].Params)
	}
	clear(p.Funcs)
	for n := l.Steps; n >= 0; n -= 3 {
		r.Goto(n)
		stands(t, r, h, n)
	}
	for n, want := range h.threads {
		if thread, e := r.Thread(n); e != api.OK || thread != want {
			t.Errorf("step %d: thread %d, error %d", n, thread, e)
		}
	}
}

// P3.9, P3.12: all moves, with all distances of checkpoints.
func TestMoves(t *testing.T) {
	p, l, h := sometime(t)
	for every := 1; every <= l.Steps+2; every++ {
		r := opened(t, p, l, every)
		for n := range l.Steps {
			stands(t, r, h, n)
			if e := r.Forward(); e != api.OK {
				t.Fatalf("every %d: Forward at %d: error %d", every, n, e)
			}
		}
		for range 2 { // at the end, where there is no state more
			stands(t, r, h, l.Steps)
			if e := r.Forward(); e != api.ErrNone {
				t.Errorf("Forward at the end: error %d", e)
			}
		}
		for n := l.Steps; n > 0; n-- {
			stands(t, r, h, n)
			if e := r.Back(); e != api.OK {
				t.Fatalf("every %d: Back at %d: error %d", every, n, e)
			}
		}
		for range 2 {
			stands(t, r, h, 0)
			if e := r.Back(); e != api.ErrNone {
				t.Errorf("Back at the beginning: error %d", e)
			}
		}
	}
}

// P3.9: Goto from each state to each, and outside.
func TestGoto(t *testing.T) {
	p := parsed(t, texts()[3])
	l, _ := followed(t, p, inputs(3, 4), turns("0*7 1*3 2*2 1*2 2*1"), 26)
	h := replayed(t, p, l)
	for _, every := range []int{1, 3, 5, 26, 27} {
		r := opened(t, p, l, every)
		for from := range l.Steps + 1 {
			for to := range l.Steps + 1 {
				r.Goto(from)
				if e := r.Goto(to); e != api.OK {
					t.Fatalf("every %d: from %d to %d: error %d", every, from, to, e)
				}
				stands(t, r, h, to)
			}
			r.Goto(from)
			for _, n := range []int{-1, l.Steps + 1, -1 << 63, 1<<63 - 1} {
				if e := r.Goto(n); e != api.ErrArg {
					t.Errorf("Goto(%d): error %d", n, e)
				}
				stands(t, r, h, from)
			}
		}
	}
}

// P3.9: who takes each step.
func TestThread(t *testing.T) {
	p, l, h := sometime(t)
	r := opened(t, p, l, 5)
	for _, at := range []int{0, 17, l.Steps} { // wherever the player is
		r.Goto(at)
		for n, want := range h.threads {
			if thread, e := r.Thread(n); e != api.OK || thread != want {
				t.Errorf("step %d: thread %d, error %d", n, thread, e)
			}
		}
		for _, n := range []int{-1, l.Steps, l.Steps + 1, -1 << 63, 1<<63 - 1} {
			if thread, e := r.Thread(n); e != api.ErrNone || thread != 0 {
				t.Errorf("step %d: thread %d, error %d", n, thread, e)
			}
		}
		stands(t, r, h, at)
	}
}

// P3.9: which checkpoints are kept.
func TestMarks(t *testing.T) {
	p, l, h := sometime(t)
	for every := 1; every <= l.Steps+2; every++ {
		r := opened(t, p, l, every)
		var want []int
		for n := 0; n <= l.Steps; n += every {
			want = append(want, n)
		}
		marks := r.Marks()
		if !slices.Equal(marks, want) {
			t.Errorf("every %d: %v", every, marks)
		}
		clear(marks[:cap(marks)])
		r.Goto(l.Steps / 2)
		if !slices.Equal(r.Marks(), want) {
			t.Errorf("every %d, later: %v", every, r.Marks())
		}
		stands(t, r, h, l.Steps/2)
	}
	p = parsed(t, one)
	l, _ = recorded(t, p, inputs(5), 100)
	if marks := opened(t, p, l, 4).Marks(); !slices.Equal(marks, []int{0, 4}) {
		t.Errorf("%v", marks)
	}
	if marks := opened(t, p, l, 3).Marks(); !slices.Equal(marks, []int{0, 3, 6}) {
		t.Errorf("%v", marks)
	}
}

// P3.9, R4: what State returns is new memory each time, also at checkpoints.
func TestStateApart(t *testing.T) {
	p, l, h := sometime(t)
	for _, every := range []int{1, 4, api.MaxSteps} {
		r := opened(t, p, l, every)
		for range 2 {
			for n := range l.Steps + 1 {
				r.Goto(n)
				spoilState(r.State())
				stands(t, r, h, n)
			}
		}
	}
}

// P3.9, P0.3: a player of a log of the greatest length.
func TestLongLog(t *testing.T) {
	p := parsed(t, "fun f(o) { while 1 { o[0] = o[0] + 1; } } fun main() { let o = new(1); spawn f(o); while 1 { o[0] = o[0] - 1; } }")
	l, _ := followed(t, p, api.Given{}, turns("0*40 1*30000 0*5000 1*7 0*99999"), api.MaxSteps)
	sums := map[int]uint64{}
	m, _ := machine.New(p, api.Given{})
	for n := range l.Steps {
		if n%4099 == 0 {
			sums[n] = machine.Sum(m.State())
		}
		m.StepOf(threadOf(l, n))
	}
	sums[l.Steps] = machine.Sum(m.State())
	for _, every := range []int{1, 1000, api.MaxSteps} {
		r := opened(t, p, l, every)
		if marks := r.Marks(); r.Len() != api.MaxSteps || len(marks) != api.MaxSteps/every+1 || marks[len(marks)-1] != api.MaxSteps-api.MaxSteps%every {
			t.Errorf("every %d: %d steps, %d checkpoints", every, r.Len(), len(marks))
		}
		for n, want := range sums {
			if e := r.Goto(n); e != api.OK || r.At() != n || machine.Sum(r.State()) != want {
				t.Errorf("every %d: Goto(%d): error %d, at %d", every, n, e, r.At())
			}
			if thread, e := r.Thread(n); n < l.Steps && (e != api.OK || thread != threadOf(l, n)) {
				t.Errorf("step %d: thread %d, error %d", n, thread, e)
			}
		}
	}
}

// threadOf returns the thread that takes a step of a log.
func threadOf(l api.Log, n int) int {
	for _, x := range l.Picks {
		if n -= x.Count; n < 0 {
			return x.Thread
		}
	}
	return -1
}

// watch is a function as what is watched.
type watch func(s api.State) bool

func (w watch) Holds(s api.State) bool { return w(s) }

// P3.10: the chapter's words, for what holds up to a state, from a state on, or in a single one.
func TestWatches(t *testing.T) {
	p, l, h := sometime(t)
	for _, every := range []int{1, 2, 7, 50, l.Steps, l.Steps + 1} {
		r := opened(t, p, l, every)
		at := l.Steps / 3
		r.Goto(at)
		asks := func(what string, holds func(n int) bool) {
			t.Helper()
			first, last := -1, -1
			for n := range h.states {
				if !holds(n) && first < 0 {
					first = n
				}
				if holds(n) {
					last = n
				}
			}
			w := watch(func(s api.State) bool { return holds(s.Outcome.Steps) })
			if n, ok := r.First(w); ok != (first >= 0) || n != max(first, 0) {
				t.Errorf("every %d, %s: First: %d, %t, not %d", every, what, n, ok, first)
			}
			if n, ok := r.Last(w); ok != (last >= 0) || n != max(last, 0) {
				t.Errorf("every %d, %s: Last: %d, %t, not %d", every, what, n, ok, last)
			}
			stands(t, r, h, at)
		}
		asks("always", func(int) bool { return true })
		asks("never", func(int) bool { return false })
		for x := range l.Steps + 2 {
			asks("up to a state", func(n int) bool { return n < x })
			asks("from a state on", func(n int) bool { return n >= x })
			asks("in a state", func(n int) bool { return n == x })
			asks("in all but a state", func(n int) bool { return n != x })
		}
		asks("now and then", func(n int) bool { return n%5 == 3 })
	}
}

// P3.10: Holds is given the states of the log, each in new memory; whatever it does with them changes nothing.
func TestWatchStates(t *testing.T) {
	p, l, h := sometime(t)
	for _, every := range []int{1, 6, api.MaxSteps} {
		r := opened(t, p, l, every)
		r.Goto(20)
		for _, holds := range []bool{true, false} {
			asked := make([]int, l.Steps+1)
			w := watch(func(s api.State) bool {
				n := s.Outcome.Steps
				if !machine.Same(s, h.states[n]) {
					t.Fatalf("asked for %+v", s)
				}
				asked[n]++
				spoilState(s)
				return holds
			})
			if holds {
				r.First(w)
			} else {
				r.Last(w)
			}
			if slices.Contains(asked, 0) {
				t.Errorf("every %d: not asked for all states: %v", every, asked)
			}
		}
		stands(t, r, h, 20)
		for n := l.Steps; n >= 0; n -= 7 {
			r.Goto(n)
			stands(t, r, h, n)
		}
	}
}

// P3.10: nothing is watched.
func TestWatchNil(t *testing.T) {
	p, l, h := sometime(t)
	r := opened(t, p, l, 8)
	r.Goto(5)
	if n, ok := r.First(nil); n != 0 || ok {
		t.Errorf("First: %d, %t", n, ok)
	}
	if n, ok := r.Last(nil); n != 0 || ok {
		t.Errorf("Last: %d, %t", n, ok)
	}
	stands(t, r, h, 5)
}

// R3: a player that no function returned.
func TestNilPlayer(t *testing.T) {
	asked := watch(func(api.State) bool { t.Error("a player without a log asks"); return false })
	for _, r := range []*record.Player{nil, {}, new(record.Player)} {
		for _, n := range []int{-1, 0, 1} {
			if e := r.Goto(n); e != api.ErrNil {
				t.Errorf("Goto: error %d", e)
			}
			if thread, e := r.Thread(n); thread != 0 || e != api.ErrNil {
				t.Errorf("Thread: %d, error %d", thread, e)
			}
			if l, e := r.Changes(n); len(l) != 0 || e != api.ErrNil {
				t.Errorf("Changes: %v, error %d", l, e)
			}
		}
		if r.Forward() != api.ErrNil || r.Back() != api.ErrNil {
			t.Error("Forward, Back")
		}
		if r.Len() != 0 || r.At() != 0 || len(r.Marks()) != 0 || !machine.Same(r.State(), api.State{}) {
			t.Error("Len, At, Marks, State")
		}
		for _, w := range []record.Watch{nil, asked} {
			if n, ok := r.First(w); n != 0 || ok {
				t.Errorf("First: %d, %t", n, ok)
			}
			if n, ok := r.Last(w); n != 0 || ok {
				t.Errorf("Last: %d, %t", n, ok)
			}
		}
	}
}

// P0.3, P3.12: random logs, moved about at random, and two players of one log that do not know each other.
func TestMovesRandom(t *testing.T) {
	runs(t, 25, func(r *rand.Rand, p api.Program, _ api.Given, h history) {
		l := h.log(h.end())
		a, b := opened(t, p, l, 1+r.Intn(h.end()+3)), opened(t, p, l, 1+r.Intn(20))
		for range 40 {
			n := r.Intn(h.end() + 1)
			if e := a.Goto(n); e != api.OK {
				t.Errorf("Goto(%d): error %d", n, e)
			}
			stands(t, a, h, n)
			if r.Intn(2) == 0 {
				a, b = b, a
			}
			n = a.At()
			if back := a.Back(); (back == api.OK) != (n > 0) {
				t.Errorf("Back at %d: error %d", n, back)
			} else if back == api.OK {
				stands(t, a, h, n-1)
				a.Forward()
			}
			stands(t, a, h, n)
			if forth := a.Forward(); (forth == api.OK) != (n < h.end()) {
				t.Errorf("Forward at %d: error %d", n, forth)
			} else if forth == api.OK {
				stands(t, a, h, n+1)
				a.Back()
			}
			stands(t, a, h, n)
		}
	})
}

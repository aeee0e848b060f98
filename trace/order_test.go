package trace_test

import (
	"slices"
	"testing"

	"sleuth/api"
	"sleuth/record"
)

// find returns the step of an operation by a thread that comes after so many others.
func (r run) find(t *testing.T, op api.Op, thread, skip int) int {
	t.Helper()
	for n := range r.Len() {
		if r.event(t, n).Thread == thread && r.op(t, n) == op {
			if skip == 0 {
				return n
			}
			skip--
		}
	}
	t.Fatalf("thread %d has no such step of the operation %d", thread, op)
	return 0
}

// P4.7: which steps are before which, where threads begin, end and lock.
func TestBefore(t *testing.T) {
	const text = "fun f(o, n) { print n; lock o; print n; unlock o; print n; } " +
		"fun main() { let o = new(0); let t = spawn f(o, 1); let u = spawn f(o, 2); print 0; join t; print 0; join u; print 0; }"
	// thread 1 goes first, then thread 2, each up to its end
	r := followed(t, text, "0*14 1*20 2*20", api.Given{})
	begin, middle, end := [3]int{}, [3]int{}, [3]int{}
	for thread := range 3 {
		begin[thread] = r.find(t, api.OpPrint, thread, 0)
		middle[thread] = r.find(t, api.OpPrint, thread, 1)
		end[thread] = r.find(t, api.OpPrint, thread, 2)
	}
	spawns := [3]int{0, r.find(t, api.OpSpawn, 0, 0), r.find(t, api.OpSpawn, 0, 1)}
	joins := [3]int{0, r.find(t, api.OpJoin, 0, 0), r.find(t, api.OpJoin, 0, 1)}
	locks := [3]int{0, r.find(t, api.OpLock, 1, 0), r.find(t, api.OpLock, 2, 0)}
	unlocks := [3]int{0, r.find(t, api.OpUnlock, 1, 0), r.find(t, api.OpUnlock, 2, 0)}
	for i, x := range []struct {
		a, b int
		want bool
	}{
		{0, 0, false}, {0, 1, true}, {1, 0, false}, {0, r.Len() - 1, true},
		{spawns[1], begin[1], true}, {spawns[1] - 1, end[1], true}, {spawns[1] + 1, begin[1], false}, {begin[1], spawns[1], false},
		{spawns[2], begin[1], false}, {spawns[2], begin[2], true}, {begin[0], begin[1], false}, {begin[1], begin[0], false},
		{end[1], joins[1], true}, {begin[0] + 1, joins[1], true}, {end[1], begin[0] + 1, false}, {end[1], end[0], true}, {end[2], joins[1], false}, {end[2], joins[2], true},
		{begin[1], begin[2], false}, {begin[1], locks[2], true}, {locks[1], locks[2], true}, {unlocks[1], locks[2], true}, {unlocks[1], locks[2] - 1, false},
		{unlocks[1], unlocks[2], true}, {middle[1], end[2], true}, {end[1], end[2], false}, {unlocks[1] + 1, locks[2], false}, {locks[2], unlocks[1], false},
		{-1, 0, false}, {0, -1, false}, {0, r.Len(), false}, {r.Len(), 0, false}, {-1, r.Len(), false}, {-1 << 63, 1<<63 - 1, false}, {3, 1<<63 - 1, false},
	} {
		if r.Before(x.a, x.b) != x.want {
			t.Errorf("%d: Before(%d, %d): %t", i, x.a, x.b, !x.want)
		}
	}
}

// P4.7: what gives no order: locks of other objects, steps that fault, a thread that is only under way, and waiting.
func TestBeforeNot(t *testing.T) {
	const locks = "fun f(o) { lock o; unlock o; print 1; } fun main() { let o = new(0); let p = new(0); spawn f(o); lock p; print 2; unlock p; lock o; print 3; }"
	r := followed(t, locks, "0*11 1*6 0*99", api.Given{})
	if a, b := r.find(t, api.OpUnlock, 1, 0), r.find(t, api.OpPrint, 0, 0); a > b || r.Before(a, b) {
		t.Errorf("Before(%d, %d): the lock of another object", a, b)
	}
	if a, b := r.find(t, api.OpUnlock, 1, 0), r.find(t, api.OpPrint, 0, 1); !r.Before(a, b) || r.Before(a+2, b) {
		t.Errorf("Before(%d, %d): the lock of the object", a, b)
	}
	const faulty = "fun f(o) { print 1; } fun main() { let o = new(0); let t = spawn f(o); join 0 - t; }"
	r = followed(t, faulty, "0*5 1*9 0*99", api.Given{})
	if n := r.Len() - 1; r.outcome.Fault != api.FaJoin || r.op(t, n) != api.OpJoin || r.Before(r.find(t, api.OpPrint, 1, 0), n) || !r.Before(0, n) {
		t.Errorf("a join that faults: %+v", r.outcome)
	}
	const unlocked = "fun f(o) { lock o; unlock o; } fun main() { let o = new(0); let t = spawn f(o); unlock o; }"
	r = followed(t, unlocked, "0*5 1*9 0*99", api.Given{})
	if n := r.Len() - 1; r.outcome.Fault != api.FaLock || r.Before(r.find(t, api.OpUnlock, 1, 0), n) {
		t.Errorf("an unlock that faults: %+v", r.outcome)
	}
}

// P4.7: a thread that several others join, at different times, and order that passes through others.
func TestBeforeThrough(t *testing.T) {
	const text = "fun w(o) { o[0] = 1; return 0; } fun j(o, t) { join t; print o[0]; } " +
		"fun main() { let o = new(1); let t = spawn w(o); let a = spawn j(o, t); let b = spawn j(o, t); join a; print o[0]; o[0] = 5; }"
	r := followed(t, text, "0*20 1*20 2*20 0*8 3*6 0*9", api.Given{})
	store := r.find(t, api.OpStore, 1, 0)
	for thread := range 4 {
		if thread != 1 && !r.Before(store, r.find(t, api.OpLoad, thread, 0)) {
			t.Errorf("the store is not before the load of thread %d", thread)
		}
	}
	a, b := r.find(t, api.OpLoad, 3, 0), r.find(t, api.OpStore, 0, 0)
	if r.Before(a, b) || r.Before(b, a) {
		t.Error("threads 0 and 3 have an order")
	}
	want := []api.Race{{Place: cellOf(0, 0), First: min(a, b), Second: max(a, b)}}
	if l := r.Races(); !slices.Equal(l, want) {
		t.Errorf("Races: %v, not %v", l, want)
	}
}

// P4.7: which race is told, at which cells, and in which order.
func TestRaces(t *testing.T) {
	const (
		open   = "fun f(o) { o[0] = 1; } fun main() { let o = new(1); let t = spawn f(o); o[0] = 2; join t; print o[0]; }"
		locked = "fun f(o) { lock o; o[0] = 1; unlock o; } fun main() { let o = new(1); let t = spawn f(o); lock o; o[0] = 2; unlock o; join t; print o[0]; }"
		loads  = "fun f(o) { o[0]; } fun main() { let o = new(1); o[0] = 1; let t = spawn f(o); o[0]; join t; o[0] = 2; }"
		later  = "fun f(o) { o[0]; o[0]; o[0] = 3; } fun main() { let o = new(1); spawn f(o); o[0]; o[0]; o[0] = 4; }"
		cells  = "fun f(o, p) { p[1] = 1; p[0] = 1; o[0] = 1; o[2] = 1; } fun main() { let o = new(3); let p = new(2); spawn f(o, p); o[2]; o[1] = 1; o[0]; p[0] = 1; p[1] = 1; }"
		fault  = "fun f(o) { o[1] = 3; } fun main() { let o = new(1); spawn f(o); o[0] = 4; o[1]; }"
		held   = "fun f(g) { g.(); } fun main() { let a = 1; let g = fn () { return a; }; spawn f(g); g.(); }"
		three  = "fun f(o) { o[0]; } fun main() { let o = new(1); spawn f(o); spawn f(o); o[0] = 1; o[0] = 2; }"
	)
	type pair struct {
		place         api.Place
		first, second int // which access of the place it is, of all that there are
	}
	for _, x := range []struct {
		text, picks string
		want        []pair
	}{
		{open, "0*6 1*9", []pair{{cellOf(0, 0), 0, 1}}},
		{open, "0*20 1*20", []pair{{cellOf(0, 0), 0, 1}}},
		{locked, "0*6 1*9", nil},
		{loads, "0*20 1*20", nil},
		{later, "0*13 1*20 0*20", []pair{{cellOf(0, 0), 0, 4}}}, // two loads of thread 0, then two loads and the store of thread 1
		{later, "0*6 1*20 0*20", []pair{{cellOf(0, 0), 2, 3}}},  // all of thread 1, whose store is the third
		{later, "0*10 1*20 0*20", []pair{{cellOf(0, 0), 0, 3}}},
		{cells, "0*9 1*40 0*40", []pair{{cellOf(0, 0), 0, 1}, {cellOf(0, 2), 0, 1}, {cellOf(1, 0), 0, 1}, {cellOf(1, 1), 0, 1}}},
		{fault, "0*40 1*9", nil},
		{held, "0*9 1*4 0*9", nil},
		{three, "0*8 1*4 2*4 0*9", []pair{{cellOf(0, 0), 0, 2}}}, // both loads race with the first store
	} {
		r := followed(t, x.text, x.picks, api.Given{})
		var want []api.Race
		for _, p := range x.want {
			l := r.accesses(t, p.place)
			want = append(want, api.Race{Place: p.place, First: l[p.first], Second: l[p.second]})
		}
		if l := r.Races(); !slices.Equal(l, want) {
			t.Errorf("%s with %s: %v, not %v", x.text, x.picks, l, want)
		}
	}
}

// accesses returns the steps that load or store a cell.
func (r run) accesses(t *testing.T, q api.Place) []int {
	t.Helper()
	var l []int
	for n := range r.Len() {
		v := r.event(t, n)
		isLoad := r.op(t, n) == api.OpLoad && slices.ContainsFunc(v.Reads, func(x api.Read) bool { return x.Place == q })
		isStore := r.op(t, n) == api.OpStore && slices.ContainsFunc(v.Writes, func(x api.Write) bool { return x.Place == q })
		if isLoad || isStore {
			l = append(l, n)
		}
	}
	return l
}

// P4.7: long runs, with and without locks.
func TestRacesLong(t *testing.T) {
	const (
		open   = "fun f(o) { while 1 { o[0] = o[0] + 1; } } fun main() { let o = new(1); spawn f(o); spawn f(o); f(o); }"
		locked = "fun f(o) { while 1 { lock o; o[0] = o[0] + 1; unlock o; } } fun main() { let o = new(1); spawn f(o); spawn f(o); f(o); }"
	)
	g := api.Given{Picks: make([]uint8, api.MaxSteps)}
	for i := range g.Picks {
		g.Picks[i] = uint8(i / 5)
	}
	for text, want := range map[string]int{open: 1, locked: 0} {
		p := parsed(t, text)
		l, _, e := record.Record(p, g, api.MaxSteps)
		if e != api.OK || l.Steps != api.MaxSteps {
			t.Fatalf("Record: error %d, %d steps", e, l.Steps)
		}
		x := traced(t, p, l)
		if races := x.Races(); len(races) != want {
			t.Errorf("%s: %v", text, races)
		}
		if !x.Before(0, api.MaxSteps-1) || x.Before(api.MaxSteps-1, 0) {
			t.Errorf("%s: the first and the last step", text)
		}
	}
}

package trace_test

import (
	"slices"
	"testing"

	"sleuth/api"
	"sleuth/record"
)

// example is the program of the chapter's examples.
const example = "fun main() { let a = input; let b = 2; if b { a = a + 1; } print a; }"

// holds checks what Value and Writer tell of a place in a state; -2 as the writer means that the place has no value.
func (r run) holds(t *testing.T, n int, q api.Place, want api.Value, writer int) {
	t.Helper()
	v, ok := r.Value(n, q)
	w := r.Writer(n, q)
	if v != want || ok != (writer > -2) || w != max(writer, -1) {
		t.Errorf("state %d, %s: %s, %t, written by %d, not %s by %d", n, shownPlace(q), shownValue(v), ok, w, shownValue(want), writer)
	}
}

// P4.2: the value of a place is that of the last write ahead of a state.
func TestValue(t *testing.T) {
	r := ran(t, example, 5)
	a, none := reg(0, 0), api.Value{}
	for n, x := range []struct {
		value  int64
		writer int
	}{{0, -1}, {0, -1}, {5, 1}, {5, 1}, {5, 1}, {5, 1}, {5, 1}, {5, 1}, {5, 1}, {5, 1}, {6, 9}, {6, 9}, {6, 9}, {6, 9}, {6, 9}} {
		r.holds(t, n, a, num(x.value), x.writer)
	}
	for _, n := range []int{-1, 15, -1 << 63, 1<<63 - 1} {
		r.holds(t, n, a, none, -2)
		r.holds(t, n, givenOf(0, 0), none, -2)
	}
	out := placeOf(api.PlOut, 0)
	r.holds(t, 11, out, none, -2)
	r.holds(t, 12, out, num(6), 11)
	r.holds(t, 14, out, num(6), 11)
	if l := r.History(a); !slices.Equal(l, []int{1, 9}) {
		t.Errorf("History of a: %v", l)
	}
	if l := r.History(reg(0, 2)); !slices.Equal(l, []int{0, 2, 4, 6, 8, 10, 12}) {
		t.Errorf("History of register 2: %v", l)
	}
	if l := r.History(out); !slices.Equal(l, []int{11}) {
		t.Errorf("History of the output: %v", l)
	}
}

// P4.2: what has a value without a write: the registers of frame 0, and what was given.
func TestValueUnwritten(t *testing.T) {
	r := followed(t, "fun main() { if 0 { let x = input + clock; } input; print clock; }", "", api.Given{Inputs: []int64{5, 6}, Clocks: []int64{7, 8}})
	none := api.Value{}
	for n := range r.Len() + 1 {
		r.holds(t, n, reg(0, 0), num(0), -1)
		r.holds(t, n, reg(0, 2), num(0), -1)
		r.holds(t, n, reg(0, 3), none, -2) // main has three registers
		r.holds(t, n, reg(0, -1), none, -2)
		r.holds(t, n, reg(1, 0), none, -2)
		r.holds(t, n, reg(-1, 0), none, -2)
		r.holds(t, n, givenOf(0, 0), num(5), -1)
		r.holds(t, n, givenOf(1, 0), num(7), -1)
		r.holds(t, n, givenOf(0, 1), none, -2) // the log has what was read
		r.holds(t, n, givenOf(1, 1), none, -2)
		r.holds(t, n, givenOf(0, -1), none, -2)
		r.holds(t, n, givenOf(-1, 0), none, -2)
		r.holds(t, n, givenOf(2, 0), none, -2)
		for _, kind := range []api.PlaceKind{api.PlNone, api.PlCell, api.PlLen, api.PlLock, api.PlGiven + 1, 255} {
			r.holds(t, n, placeOf(kind, 0), none, -2)
			if l := r.History(placeOf(kind, 0)); len(l) > 0 {
				t.Errorf("kind %d: History: %v", kind, l)
			}
		}
	}
	if l := r.History(givenOf(0, 0)); len(l) > 0 {
		t.Errorf("History of an input: %v", l)
	}
}

// P4.2: places of all kinds, which keep what was written last when their frame or thread has ended.
func TestValueKinds(t *testing.T) {
	r := followed(t, "fun f(o, n) { let g = fn () { return o; }; lock o; o[1] = g; unlock o; return o; } fun main() { let t = spawn f(new(2), 3); join t; print t; }", "0*5 1*30", api.Given{})
	made := r.Writer(r.Len(), placeOf(api.PlThread, 0)) // the end
	if made != r.Len()-1 {
		t.Fatalf("the last step is %d, not %d", r.Len()-1, made)
	}
	spawn := r.History(placeOf(api.PlThread, 1))[0]
	if v := r.event(t, spawn); shown(v) != "r0.1=&0v1 r0.2=3v2 -> r1.0=&0 r1.1=3 r1.2=0 r1.3=0 r1.4=0 r1.5=0 t1=0 r0.1=1" {
		t.Fatalf("the spawn: %s", shown(v))
	}
	end := r.Len()
	r.holds(t, spawn, reg(1, 0), api.Value{}, -2)
	r.holds(t, spawn+1, reg(1, 0), ref(0), spawn)
	r.holds(t, end, reg(1, 1), num(3), spawn)
	r.holds(t, end, reg(1, 6), api.Value{}, -2)
	r.holds(t, end, reg(1, 2), fun(1), r.History(reg(1, 2))[1])
	if l := r.History(reg(1, 5)); !slices.Equal(l[:1], []int{spawn}) || len(l) != 2 {
		t.Errorf("History of the last register: %v", l)
	}
	thread := r.History(placeOf(api.PlThread, 1))
	r.holds(t, thread[1], placeOf(api.PlThread, 1), num(0), spawn)
	r.holds(t, end, placeOf(api.PlThread, 1), ref(0), thread[1])
	locks := r.History(placeOf(api.PlLock, 0))
	if len(locks) != 2 {
		t.Fatalf("History of the lock: %v", locks)
	}
	r.holds(t, locks[0], placeOf(api.PlLock, 0), api.Value{}, -2)
	r.holds(t, locks[0]+1, placeOf(api.PlLock, 0), num(1), locks[0])
	r.holds(t, end, placeOf(api.PlLock, 0), num(-1), locks[1])
	r.holds(t, 2, placeOf(api.PlLen, 0), num(2), 1)
	r.holds(t, end, placeOf(api.PlLen, 1), num(1), r.Writer(end, cellOf(1, 0)))
	r.holds(t, end, cellOf(1, 0), ref(0), r.Writer(end, placeOf(api.PlLen, 1)))
	r.holds(t, end, cellOf(0, 0), num(0), 1)
	r.holds(t, end, cellOf(0, 1), fun(1), r.History(cellOf(0, 1))[1])
	r.holds(t, end, cellOf(0, 2), api.Value{}, -2)
}

// P4.2: a step that faults writes nothing.
func TestValueFault(t *testing.T) {
	r := ran(t, "fun main() { let o = new(1); o[0] = 4; o[1] = 5; }")
	r.holds(t, r.Len(), cellOf(0, 0), num(4), 6)
	r.holds(t, r.Len(), cellOf(0, 1), api.Value{}, -2)
	r = ran(t, "fun main() { print input; print input; }", 3)
	r.holds(t, r.Len(), reg(0, 0), num(3), 0)
	r.holds(t, r.Len(), placeOf(api.PlOut, 1), api.Value{}, -2)
}

// P4.2: the states of a run that is left by a limit, and the places that its last step writes.
func TestValueAtTheEnd(t *testing.T) {
	p := parsed(t, "fun main() { let i = 0; while 1 { i = i + 1; } }")
	l, _, e := record.Record(p, api.Given{}, api.MaxSteps)
	if e != api.OK {
		t.Fatalf("Record: error %d", e)
	}
	r := run{Trace: traced(t, p, l)}
	if r.Len() != api.MaxSteps {
		t.Fatalf("%d steps", r.Len())
	}
	// a round has 7 steps, the last but one of which sets i
	const rounds = (api.MaxSteps - 2) / 7
	r.holds(t, r.Len(), reg(0, 0), num(rounds), 2+7*(rounds-1)+5)
	r.holds(t, 2+7*4, reg(0, 0), num(4), 2+7*3+5)
	if h := r.History(reg(0, 0)); len(h) != rounds+1 || h[0] != 1 || h[9] != 2+7*8+5 {
		t.Errorf("History: %d steps", len(h))
	}
	if n := r.Times(2); n != rounds {
		t.Errorf("the body began %d times", n)
	}
}

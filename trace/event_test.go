package trace_test

import (
	"fmt"
	"slices"
	"strings"
	"testing"

	"sleuth/api"
	"sleuth/machine"
	"sleuth/record"
	"sleuth/trace"
)

// op returns the operation of a step.
func (r run) op(t *testing.T, n int) api.Op {
	t.Helper()
	c, e := machine.Compile(r.program)
	if e != api.OK {
		t.Fatalf("Compile: error %d", e)
	}
	v := r.event(t, n)
	return c.Chunks[v.Chunk].Code[v.PC].Op
}

// P4.1: what each instruction of the table reads and writes, in its order.
func TestEvents(t *testing.T) {
	const (
		call  = "fun f(a, b) { let c = a; return b; } fun main() { print f(3, 4); }"
		apply = "fun main() { let x = 5; let y = 4; let g = fn (a) { let z = a; return z + x + y; }; print g.(6); }"
		spawn = "fun f(a) { return a; } fun main() { let t = spawn f(8); join t; }"
		heap  = "fun main() { let o = new(2); o[1] = len(o); print o[1]; }"
		given = "fun main() { print input + clock; print input; print clock; }"
		throw = "fun f(a) { throw a; } fun main() { try { f(9); } catch x { print x; } throw 1; }"
		locks = "fun main() { let o = new(0); lock o; unlock o; lock o; try { assert 1; } catch e { } while o == o { } }"
	)
	for _, x := range []struct {
		op   api.Op
		text string
		step int
		want string
	}{
		{api.OpConst, "fun main() { let x = 7; }", 0, "-> r0.1=7"},
		{api.OpMove, "fun main() { let x = 7; }", 1, "r0.1=7v0 -> r0.0=7"},
		{api.OpMove, "fun main() { if 0 { let x = 7; } print x; }", 2, "r0.0=0v-1 -> r0.1=0"},
		{api.OpUnary, "fun main() { print -7; }", 1, "r0.0=7v0 -> r0.0=-7"},
		{api.OpUnary, "fun main() { print !7; }", 1, "r0.0=7v0 -> r0.0=0"},
		{api.OpUnary, "fun main() { print !0; }", 1, "r0.0=0v0 -> r0.0=1"},
		{api.OpBinary, "fun main() { print 7 - 2; }", 2, "r0.0=7v0 r0.1=2v1 -> r0.0=5"},
		{api.OpBinary, "fun main() { new(0) == new(0); }", 4, "r0.0=&0v1 r0.1=&1v3 -> r0.0=0"},
		{api.OpNew, heap, 1, "r0.1=2v0 -> n0=2 c0.0=0 c0.1=0 r0.1=&0"},
		{api.OpNew, locks, 1, "r0.2=0v0 -> n0=0 r0.2=&0"},
		{api.OpLen, heap, 6, "r0.3=&0a5 n0=2v1 -> r0.3=2"},
		{api.OpStore, heap, 7, "r0.1=&0a3 r0.2=1a4 r0.3=2v6 -> c0.1=2"},
		{api.OpLoad, heap, 10, "r0.1=&0a8 r0.2=1a9 c0.1=2v7 -> r0.1=2"},
		{api.OpCall, call, 2, "r0.0=3v0 r0.1=4v1 -> r1.0=3 r1.1=4 r1.2=0 r1.3=0"},
		{api.OpReturn, call, 6, "r1.3=4v5 -> r0.0=4"},
		{api.OpReturn, call, 9, "r0.0=0v8 -> t0=0"},
		{api.OpClose, apply, 6, "r0.3=5v4 r0.4=4v5 -> n0=2 c0.0=5 c0.1=4 r0.3=*0"},
		{api.OpClose, "fun main() { fn () { }; }", 0, "-> n0=0 r0.0=*0"},
		{api.OpApply, apply, 10, "r0.3=*0t8 r0.4=6v9 c0.0=5v6 c0.1=4v6 -> r1.0=6 r1.1=5 r1.2=4 r1.3=0 r1.4=0 r1.5=0"},
		{api.OpSpawn, spawn, 1, "r0.1=8v0 -> r1.0=8 r1.1=0 t1=0 r0.1=1"},
		{api.OpReturn, spawn, 5, "r1.1=8v4 -> t1=8"},
		{api.OpJoin, spawn, 6, "r0.1=1a3 t1=8o5 ->"},
		{api.OpInput, given, 0, "g0.0=5v-1 -> r0.0=5"},
		{api.OpClock, given, 1, "g1.0=7v-1 -> r0.1=7"},
		{api.OpInput, given, 4, "g0.1=6v-1 -> r0.0=6"},
		{api.OpClock, given, 6, "g1.1=8v-1 -> r0.0=8"},
		{api.OpPrint, given, 3, "r0.0=12v2 -> o0=12"},
		{api.OpPrint, given, 5, "r0.0=6v4 -> o1=6"},
		{api.OpTry, throw, 0, "->"},
		{api.OpThrow, throw, 4, "r1.1=9v3 -> r0.0=9"},
		{api.OpThrow, throw, 8, "r0.1=1v7 ->"},
		{api.OpLock, locks, 4, "r0.2=&0a3 l0=-1o-1 -> l0=0"},
		{api.OpUnlock, locks, 6, "r0.2=&0a5 l0=0o4 -> l0=-1"},
		{api.OpLock, locks, 8, "r0.2=&0a7 l0=-1o6 -> l0=0"},
		{api.OpAssert, locks, 11, "r0.2=1t10 ->"},
		{api.OpEnd, locks, 12, "->"},
		{api.OpJump, locks, 13, "->"},
		{api.OpBranch, locks, 17, "r0.2=1t16 ->"},
		{api.OpAssert, "fun main() { assert 0; }", 1, "r0.0=0t0 ->"}, // the run is over, but by no fault
	} {
		r := followed(t, x.text, "0*7 1*2", api.Given{Inputs: []int64{5, 6, 9}, Clocks: []int64{7, 8}})
		if s := shown(r.event(t, x.step)); s != x.want || r.op(t, x.step) != x.op {
			t.Errorf("step %d of %s: operation %d, %s, not %d, %s", x.step, x.text, r.op(t, x.step), s, x.op, x.want)
		}
	}
}

// P4.1: a step that faults reads the registers of the table for a test, and does nothing else.
func TestEventsOfFaults(t *testing.T) {
	for _, x := range []struct {
		op    api.Op
		fault api.Fault
		text  string
		want  string
	}{
		{api.OpUnary, api.FaKind, "fun main() { print -new(0); }", "r0.0=&0t1 ->"},
		{api.OpBinary, api.FaZero, "fun main() { print 1 / 0; }", "r0.0=1t0 r0.1=0t1 ->"},
		{api.OpNew, api.FaRange, "fun main() { new(-1); }", "r0.0=-1t1 ->"},
		{api.OpLoad, api.FaRange, "fun main() { new(1)[1]; }", "r0.0=&0t1 r0.1=1t2 ->"},
		{api.OpLoad, api.FaKind, "fun main() { 4[1]; }", "r0.0=4t0 r0.1=1t1 ->"},
		{api.OpStore, api.FaRange, "fun main() { new(1)[1] = 5; }", "r0.0=&0t1 r0.1=1t2 r0.2=5t3 ->"},
		{api.OpLen, api.FaKind, "fun main() { len(1); }", "r0.0=1t0 ->"},
		{api.OpClose, api.FaRoom, "fun main() { new(1023); let x = 1; let y = 2; fn () { x; y; }; }", "r0.2=1t6 r0.3=2t7 ->"},
		{api.OpCall, api.FaRoom, "fun f(a, b) { f(a, b); } fun main() { f(7, 8); }", "r31.2=7t93 r31.3=8t94 ->"},
		{api.OpApply, api.FaKind, "fun main() { let g = 1; g.(2, 3); }", "r0.1=1t2 r0.2=2t3 r0.3=3t4 ->"},
		{api.OpApply, api.FaArity, "fun main() { let x = 4; let g = fn () { x; }; g.(2); }", "r0.2=*0t5 r0.3=2t6 ->"},
		{api.OpSpawn, api.FaRoom, "fun f(a) { } fun main() { while 1 { spawn f(5); } }", "r0.0=5t37 ->"},
		{api.OpInput, api.FaGiven, "fun main() { input; }", "->"},
		{api.OpClock, api.FaGiven, "fun main() { clock; }", "->"},
		{api.OpBranch, api.FaKind, "fun main() { if new(0) { print 1; } }", "r0.0=&0t1 ->"},
		{api.OpJoin, api.FaJoin, "fun main() { join 0; }", "r0.0=0t0 ->"},
		{api.OpJoin, api.FaJoin, "fun main() { join 5; }", "r0.0=5t0 ->"},
		{api.OpJoin, api.FaKind, "fun main() { join new(0); }", "r0.0=&0t1 ->"},
		{api.OpLock, api.FaLock, "fun main() { let o = new(0); lock o; lock o; }", "r0.1=&0t5 ->"},
		{api.OpLock, api.FaKind, "fun main() { lock 3; }", "r0.0=3t0 ->"},
		{api.OpUnlock, api.FaLock, "fun main() { unlock new(0); }", "r0.0=&0t1 ->"},
		{api.OpPrint, api.FaKind, "fun main() { print new(0); }", "r0.0=&0t1 ->"},
		{api.OpAssert, api.FaKind, "fun main() { assert new(0); }", "r0.0=&0t1 ->"},
	} {
		r := ran(t, x.text)
		n := r.Len() - 1
		v := r.event(t, n)
		if shown(v) != x.want || r.op(t, n) != x.op || r.outcome.Fault != x.fault || v.Line != r.outcome.Line {
			t.Errorf("%s: operation %d, fault %d, %s, not %s", x.text, r.op(t, n), r.outcome.Fault, shown(v), x.want)
		}
	}
}

// stood returns where the steps of a run stand: the thread, the frame, the chunk, the PC, the Line and Control of each.
func (r run) stood(t *testing.T) string {
	var l []string
	for n := range r.Len() {
		v := r.event(t, n)
		l = append(l, fmt.Sprint(v.Thread, v.Frame, v.Chunk, v.PC, v.Line, v.Control))
	}
	return strings.Join(l, ", ")
}

// P4.1: thread, frame, chunk, PC and Line of steps, where threads take turns, and functions, closures and handlers lead to other frames.
func TestEventsStand(t *testing.T) {
	r := followed(t, "fun f(a) { throw a; } fun main() { let g = fn () { return f(1); }; let t = spawn f(3); try { g.(); } catch x { } }", "0*5 1*1 0*99", api.Given{})
	const want = "0 0 1 0 1 -1, 0 0 1 1 1 -1, " + // the closure, chunk 2, whose statement is 2
		"0 0 1 2 3 -1, 0 0 1 3 3 -1, 0 0 1 4 3 -1, " + // frame 1 is that of thread 1
		"1 1 0 0 0 3, " +
		"0 0 1 5 4 -1, 0 0 1 6 5 -1, 0 0 1 7 5 -1, " +
		"0 2 2 0 2 8, 0 2 2 1 2 8, " + // the closure
		"0 3 0 0 0 10, 0 3 0 1 0 10, " + // throws
		"0 0 1 10 -1 -1, 0 0 1 11 -1 -1" // caught, and the end
	if s := r.stood(t); s != want {
		t.Errorf("%s, not %s", s, want)
	}
}

// controls returns Control of each step that is of the statement, in order.
func (r run) controls(t *testing.T, line int) []int {
	var l []int
	for n := range r.Len() {
		if v := r.event(t, n); v.Line == line {
			l = append(l, v.Control)
		}
	}
	return l
}

// P4.1: which step is Control of those of a statement.
func TestControl(t *testing.T) {
	const (
		choice = "fun main() { let a = input; if a { print 1; } else { print 2; } print 3; }"
		loop   = "fun main() { let a = 2; while a { a = a - 1; } print 3; }"
		nested = "fun main() { let a = 2; while a { a = a - 1; if a { while 0 { } print a; } } }"
		tried  = "fun main() { try { if input { throw 5; } print 1; } catch x { print 2; } print 3; }"
		called = "fun f(a) { if a { return 1; } print 4; } fun main() { if 1 { f(1); f(0); } }"
		inner  = "fun main() { if 1 { let g = fn () { print 1; }; g.(); } }"
		thrown = "fun f(a) { if a { throw a; } print 6; } fun main() { try { f(0); f(1); } catch x { print x; } }"
		begun  = "fun f(a) { print a; } fun main() { if 1 { join spawn f(2); } }"
	)
	for _, x := range []struct {
		text  string
		input int64
		line  int
		want  []int
	}{
		{choice, 1, 0, []int{-1, -1}},
		{choice, 1, 1, []int{-1, -1, -1}}, // the jump over the Else is the statement's own
		{choice, 1, 2, []int{3, 3}},
		{choice, 0, 3, []int{3, 3}},
		{choice, 0, 4, []int{-1, -1}},
		{loop, 0, 1, []int{-1, -1, 3, 3, 3, 10, 10, 10}}, // the condition is in the region
		{loop, 0, 2, []int{3, 3, 3, 3, 10, 10, 10, 10}},
		{loop, 0, 3, []int{-1, -1}},
		{nested, 0, 2, []int{3, 3, 3, 3, 16, 16, 16, 16}},
		{nested, 0, 3, []int{3, 3, 16, 16}},
		{nested, 0, 4, []int{9, 9}},
		{nested, 0, 5, []int{9, 9}}, // what the loop decided ahead of it is about the loop alone
		{tried, 0, 0, []int{-1, -1, -1}},
		{tried, 0, 1, []int{-1, -1}},
		{tried, 1, 2, []int{2, 2}},
		{tried, 0, 3, []int{-1, -1}},
		{tried, 1, 4, []int{4, 4}}, // in the Else by what was thrown
		{tried, 1, 5, []int{-1, -1}},
		{called, 0, 0, []int{3, 3, 9, 9}}, // the calls
		{called, 0, 1, []int{5, 5}},
		{called, 0, 2, []int{9, 9}},
		{called, 0, 4, []int{1, 1}},
		{called, 0, 5, []int{1, 1}},
		{inner, 0, 2, []int{5, 5}},  // the code of a closure is in no region outside
		{thrown, 0, 2, []int{2, 2}}, // the first call; the second one throws
		{thrown, 0, 5, []int{-1, -1}},
		{thrown, 0, 6, []int{14, 14}}, // what is thrown decides in the frame of the handler
		{begun, 0, 0, []int{3, 3}},
		{begun, 0, 2, []int{1, 1, 1}},
	} {
		r := ran(t, x.text, x.input)
		if l := r.controls(t, x.line); !slices.Equal(l, x.want) {
			t.Errorf("statement %d of %s with %d: %v, not %v", x.line, x.text, x.input, l, x.want)
		}
	}
}

// P4.1: the length, and the steps that there are not.
func TestEventNone(t *testing.T) {
	r := ran(t, "fun main() { print 1; }")
	if r.Len() != 4 {
		t.Errorf("%d steps", r.Len())
	}
	for _, n := range []int{-1, 4, 5, -1 << 63, 1<<63 - 1} {
		if v, e := r.Event(n); e != api.ErrNone || !isEmptyEvent(v) {
			t.Errorf("step %d: error %d, %+v", n, e, v)
		}
	}
}

// P4.1, P4.2, P4.4, P4.5, P4.6, P4.7: the trace of a log without steps.
func TestEmpty(t *testing.T) {
	p := parsed(t, "fun main() { let x = input; print x; }")
	l, _, e := record.Record(p, api.Given{}, 0)
	if e != api.OK || l.Steps != 0 {
		t.Fatalf("Record: error %d", e)
	}
	x := traced(t, p, l)
	if v, e := x.Event(0); x.Len() != 0 || e != api.ErrNone || !isEmptyEvent(v) {
		t.Errorf("%d steps, error %d, %+v", x.Len(), e, v)
	}
	if v, ok := x.Value(0, reg(0, 1)); v != num(0) || !ok {
		t.Errorf("Value: %v, %t", v, ok)
	}
	if n := x.Writer(0, reg(0, 1)); n != -1 {
		t.Errorf("Writer: %d", n)
	}
	if l, e := x.Origin(0, reg(0, 1)); e != api.ErrNone || len(l) > 0 {
		t.Errorf("Origin: error %d, %v", e, l)
	}
	if l, e := x.Slice(0, trace.Full); e != api.ErrNone || len(l) > 0 {
		t.Errorf("Slice: error %d, %v", e, l)
	}
	if l, e := x.Rerun(nil); e != api.OK || len(l) > 0 {
		t.Errorf("Rerun: error %d, %v", e, l)
	}
	if len(x.History(reg(0, 1))) > 0 || len(x.Lines()) > 0 || x.Times(0) != 0 || x.Before(0, 0) || len(x.Races()) > 0 || len(x.Statements([]int{0})) > 0 {
		t.Error("there is something in it")
	}
}

// P4.1: what is no log of a program has no trace: the error of record.Check.
func TestOfRefuses(t *testing.T) {
	const text = "fun f(o) { lock o; } fun main() { let o = new(0); spawn f(o); spawn f(o); print input; print clock; }"
	p := parsed(t, text)
	good, _, _ := record.Record(p, api.Given{Inputs: []int64{1}, Clocks: []int64{2}}, 99)
	change := func(f func(l *api.Log)) api.Log {
		l := good
		l.Picks, l.Inputs, l.Clocks = slices.Clone(l.Picks), slices.Clone(l.Inputs), slices.Clone(l.Clocks)
		f(&l)
		return l
	}
	for i, x := range []struct {
		program api.Program
		log     api.Log
		want    api.Errno
	}{
		{p, good, api.OK},
		{api.Program{}, good, api.ErrName},
		{parsed(t, "fun main(a) { }"), good, api.ErrArg},
		{parsed(t, "fun main() { let a = 1; let a = 2; }"), good, api.ErrTwice},
		{api.Program{Funcs: make([]api.Func, api.MaxFuncs+1)}, good, api.ErrLimit},
		{api.Program{Funcs: []api.Func{{Name: "main", Body: []api.Node{{Kind: 99}}}}}, good, api.ErrArg},
		{api.Program{}, api.Log{Steps: -1}, api.ErrName},
		{p, api.Log{Inputs: make([]int64, api.MaxGiven+1)}, api.ErrLimit},
		{p, api.Log{Steps: 1}, api.ErrForm},
		{p, change(func(l *api.Log) { l.Picks[0].Thread = 9 }), api.ErrForm},
		{p, change(func(l *api.Log) { l.Picks[0].Thread = 1 }), api.ErrState},
		{p, change(func(l *api.Log) { l.Inputs = append(l.Inputs, 3) }), api.ErrState},
		{p, change(func(l *api.Log) { l.Sum++ }), api.ErrSum},
		{p, change(func(l *api.Log) { l.Inputs[0]++ }), api.ErrSum},
		{parsed(t, "fun main() { }"), good, api.ErrState},
		{parsed(t, "fun main() { while 1 { } }"), api.Log{Picks: good.Picks, Steps: good.Steps}, api.ErrSum},
	} {
		l, e := trace.Of(x.program, x.log)
		if e != x.want || (l != nil) != (e == api.OK) || e != record.Check(x.program, x.log) {
			t.Errorf("%d: error %d, not %d", i, e, x.want)
		}
	}
}

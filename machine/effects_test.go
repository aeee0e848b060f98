package machine_test

import (
	"fmt"
	"reflect"
	"strings"
	"testing"

	"sleuth/api"
	"sleuth/machine"
)

// given is what the runs of the tables get.
func given() api.Given { return api.Given{Inputs: []int64{5, -6}, Clocks: []int64{70}} }

// P2.4, P2.6: what the instructions of one frame do, as far as the output shows it.
func TestEffects(t *testing.T) {
	for text, want := range map[string]string{
		"": "[]",
		"print -5; print - -5; print -(-9223372036854775807 - 1);":                              "[-5 5 -9223372036854775808]",
		"print !0; print !3; print !-1; print !!7;":                                             "[1 0 0 1]",
		"let a = 1; let b = a; a = 2; print a; print b;":                                        "[2 1]",
		"let o = new(3); print len(o); print o[0] + o[2]; o[1] = 4; print o[1]; print o[0];":    "[3 0 4 0]",
		"let o = new(1); let p = o; p[0] = 7; print o[0]; print o == p; print o == new(1);":     "[7 1 0]",
		"let o = new(0); print len(o); print o == 0; print o != 0;":                             "[0 0 1]",
		"let o = new(1); o[0] = new(2); o[0][1] = 3; print o[0][1]; print len(o[0]);":           "[3 2]",
		"print input; print input; print clock;":                                                "[5 -6 70]",
		"if 0 { print 1; } else { print 2; } if -1 { print 3; } else { print 4; }":              "[2 3]",
		"if 0 { print 5; } if 1 { print 6; }":                                                   "[6]",
		"let i = 3; while i { print i; i = i - 1; } print 9; while 0 { print 1; }":              "[3 2 1 9]",
		"if 1 { let x = 1; } else { let y = 2; } print x; print y;":                             "[1 0]",
		"let i = 0; while i < 2 { if !i { let z = 5; } print z; z = z + 1; i = i + 1; }":        "[5 6]",
		"let o = new(0); lock o; unlock o; lock o; print 1;":                                    "[1]",
		"assert 1; assert -1; print 2;":                                                         "[2]",
		"print 1; return 2; print 3;":                                                           "[1]",
		"let i = 2; while 1 { if i == 0 { return 0; } print i; i = i - 1; }":                    "[2 1]",
		"let o = new(2); o[0] = 1; let i = 0; o[i] = o[i] + 1; print o[0]; print o[1];":         "[2 0]",
		"let o = new(1); o[0] = o; print o[0][0] == o;":                                         "[1]",
		"print (input == 5) & (input == -6); print 0 & (1 / 1); print 2 | 0; print 0 | 0;":      "[1 0 1 0]",
		"print 9223372036854775807 + 1; print -9223372036854775807 - 2; print (1 / 1) * -3;":    "[-9223372036854775808 9223372036854775807 -3]",
		"let a = 1; let b = 2; let c = a; a = b; b = c; print a; print b; print (a == b) == 0;": "[2 1 1]",
	} {
		if o := finished(t, main(text), given()); o.End != api.EnDone || fmt.Sprint(o.Out) != want {
			t.Errorf("%s: %+v", text, o)
		}
	}
}

// P2.4, P2.6: calls, closures, and what is thrown.
func TestCalls(t *testing.T) {
	for text, want := range map[string]string{
		"fun f(a, b) { a = a - b; return a; } fun main() { let a = 9; print f(a, 2); print a; }":                                         "[7 9]",
		"fun f() { } fun main() { print f(); print 1 + f(); }":                                                                           "[0 1]",
		"fun f(n) { if n < 2 { return 1; } return n * f(n - 1); } fun main() { print f(10); }":                                           "[3628800]",
		"fun f(o) { o[0] = 3; } fun main() { let o = new(1); f(o); print o[0]; }":                                                        "[3]",
		"fun f(a) { let b = 5; return a + b; } fun main() { print f(1) + f(f(2)); }":                                                     "[18]",
		"fun f(a) { if a { let b = 5; } return b; } fun main() { print f(1); print f(0); }":                                              "[5 0]",
		"fun main() { let x = 7; let g = fn () { x = x + 1; return x; }; print g.(); print g.(); print x; }":                             "[8 8 7]",
		"fun main() { let x = 7; let g = fn () { return x; }; x = 8; print g.(); }":                                                      "[7]",
		"fun main() { let o = new(1); let g = fn () { o[0] = o[0] + 1; return o[0]; }; g.(); print g.(); print o[0]; }":                  "[2 2]",
		"fun main() { let a = 1; let b = 2; let g = fn (p, q) { let c = q; return c * 1000 + b * 100 + a * 10 + p; }; print g.(3, 4); }": "[4213]",
		"fun main() { let g = fn () { }; let h = g; print g == h; print g != fn () { }; print g.(); }":                                   "[1 1 0]",
		"fun main() { let o = new(1); o[0] = fn (a) { return a + 1; }; print o[0].(4); }":                                                "[5]",
		"fun f(g, x) { return g.(g.(x)); } fun main() { let k = 3; print f(fn (a) { return a * k; }, 5); }":                              "[45]",
		"fun f(x) { return fn (y) { return x - y; }; } fun main() { let a = f(10); let b = f(20); print a.(1); print b.(2); }":           "[9 18]",
		"fun main() { try { print 1; } catch e { print 2; } print 3; print e; }":                                                         "[1 3 0]",
		"fun main() { try { print 1; throw 5; print 2; } catch e { print e; } print e; }":                                                "[1 5 5]",
		"fun main() { try { try { throw 1; } catch e { throw e + 1; } print 0; } catch d { print d; } }":                                 "[2]",
		"fun main() { try { try { print 1; } catch e { print 2; } throw 3; } catch d { print d; } }":                                     "[1 3]",
		"fun main() { let o = new(1); try { throw o; } catch e { e[0] = 4; } print o[0]; }":                                              "[4]",
		"fun main() { let i = 3; while i { try { if i == 2 { throw i; } print 10 * i; } catch e { print e; } i = i - 1; } }":             "[30 2 10]",
		"fun f() { throw 7; } fun main() { try { f(); } catch x { print x; } }":                                                          "[7]",
		"fun f() { throw 7; } fun g() { f(); print 1; } fun main() { try { g(); print 2; } catch x { print x; } }":                       "[7]",
		"fun f() { try { throw 7; } catch x { return x + 1; } } fun main() { try { print f(); } catch y { print 0; } }":                  "[8]",
		"fun f() { try { return 1; } catch x { print x; } } fun main() { try { f(); throw 2; } catch y { print y; } }":                   "[2]",
		"fun main() { try { fn () { throw 8; }.(); } catch e { print e; } }":                                                             "[8]",
		"fun main() { let g = fn () { try { throw 8; } catch e { return e; } }; print g.() + g.(); }":                                    "[16]",
	} {
		if o := finished(t, text, api.Given{}); o.End != api.EnDone || fmt.Sprint(o.Out) != want {
			t.Errorf("%s: %+v", text, o)
		}
	}
}

// P2.4, P2.6: each fault, the first one if there are several, and that the step changes nothing else. The last statement is the one that faults.
func TestFaults(t *testing.T) {
	for fault, texts := range map[api.Fault][]string{
		api.FaKind: {
			"-new(0)", "!fn () { }", "new(new(0))", "new(fn () { })", "len(3)", "len(fn () { })", "1.()", "new(0).(1)",
			"1[0]", "1[-1]", "0[new(0)]", "new(1)[new(0)]", "fn () { }[0]", "1[0] = 2", "new(1)[fn () { }] = 2", "fn () { }[0] = 1",
			"join new(0)", "join fn () { }", "lock 0", "lock fn () { }", "unlock 0", "unlock fn () { }",
			"print new(0)", "print fn () { }", "assert new(0)", "assert fn () { }",
			"new(0) / 0", "0 % new(0)", "new(0) + 1", "1 - fn () { }", "new(0) * new(0)", "fn () { } < 1", "1 <= new(0)",
			"new(0) > 1", "1 >= new(0)", "new(0) & 0", "0 | new(0)",
		},
		api.FaZero: {"1 / 0", "1 % 0", "0 / 0", "0 % 0", "print 7 / (3 - 3)"},
		api.FaRange: {
			"new(-1)", "new(-9223372036854775807 - 1)", "new(1)[1]", "new(1)[-1]", "new(0)[0]", "new(2)[9223372036854775807]",
			"new(1)[1] = 2", "new(1)[-1] = 2", "new(0)[0] = new(0)",
		},
		api.FaRoom:  {"new(1025)", "new(9223372036854775807)"},
		api.FaLock:  {"unlock new(0)", "let o = new(0); lock o; lock o", "let o = new(0); lock o; unlock o; unlock o"},
		api.FaArity: {"fn (a) { }.()", "fn () { }.(1)", "fn (a, b) { }.(1, 2, 3)"},
		api.FaJoin:  {"join 0", "join 1", "join -1", "join 9223372036854775807", "join -9223372036854775807 - 1"},
		api.FaGiven: {"print input; print input; print input", "let a = clock; a = clock"},
	} {
		for _, text := range texts {
			faults(t, main(text+";"), fault, strings.Count(text, ";"))
		}
	}
	faults(t, main("if new(0) { }"), api.FaKind, 0)
	faults(t, main("1; while fn () { 2; } { }"), api.FaKind, 1)
}

// faults checks that a run ends with a fault of a statement, by a step that changes nothing else.
func faults(t *testing.T, text string, fault api.Fault, line int) {
	t.Helper()
	m := begun(t, text, given())
	var before api.State
	for !m.Over() {
		before = m.State()
		m.Step()
	}
	want := before
	want.Outcome.End, want.Outcome.Fault, want.Outcome.Line = api.EnFault, fault, line
	want.Outcome.Steps++
	if got := m.State(); !machine.Same(got, want) {
		t.Errorf("%s: %+v behind %+v", text, got, before)
	}
}

// P2.4, P2.6: each limit, and one past it.
func TestRoom(t *testing.T) {
	// a loop makes one less than its number, and the statement behind it one more
	loop := func(count int, body string) string {
		return fmt.Sprintf("let i = %d; while i > 1 { i = i - 1; %s }", count, body)
	}
	deep := func(frames int) string {
		return fmt.Sprintf("fun f(n) { if n { f(n - 1); } } fun main() { f(%d); }", frames-2)
	}
	deepApply := func(frames int, last string) string {
		return main(fmt.Sprintf("let o = new(1); o[0] = fn (n) { if n { o[0].(n - 1); } else { %s } }; o[0].(%d);", last, frames-2))
	}
	threads := func(count int) string { return "fun f() { } " + main(loop(count-1, "join spawn f();")+" spawn f();") }
	for text, line := range map[string]int{
		main(loop(api.MaxObjects, "new(0);") + " new(0);"):                                -1,
		main(loop(api.MaxObjects+1, "new(0);") + " new(0);"):                              4,
		main(loop(api.MaxObjects, "fn () { };") + " fn () { };"):                          -1,
		main(loop(api.MaxObjects+1, "fn () { };") + " fn () { };"):                        4,
		main("new(1024); new(0); fn () { };"):                                             -1,
		main("new(1024); new(1);"):                                                        1,
		main("new(1000); new(24); new(0);"):                                               -1,
		main("new(1000); new(25);"):                                                       1,
		main("let x = 1; new(1023); fn () { x; };"):                                       -1,
		main("let x = 1; new(1023); fn () { x; }; fn () { 1; }; fn () { x; };"):           6,
		main("let x = 1; fn () { x; }; new(1024);"):                                       3,
		main(loop(api.MaxOut, "print i;") + " print 0;"):                                  -1,
		main(loop(api.MaxOut+1, "print i;") + " print 0;"):                                4,
		deep(api.MaxFrames):                                                               -1,
		deep(api.MaxFrames + 1):                                                           1,
		"fun f() { return 1; } fun main() { " + loop(api.MaxFrames+9, "f();") + " f(); }": -1,
		deepApply(api.MaxFrames, ""):                                                      -1,
		deepApply(api.MaxFrames+1, ""):                                                    3,
		threads(api.MaxThreads):                                                           -1,
		threads(api.MaxThreads + 1):                                                       4,
	} {
		o := finished(t, text, api.Given{})
		if line < 0 && o.End != api.EnDone || line >= 0 && (o.End != api.EnFault || o.Fault != api.FaRoom || o.Line != line) {
			t.Errorf("%s: %+v", text, o)
		}
		if line >= 0 {
			faults(t, text, api.FaRoom, line)
		}
	}
	// another fault that is named ahead of it counts
	faults(t, main(loop(api.MaxObjects+1, "new(0);")+" new(-1);"), api.FaRange, 4)
	faults(t, main("let o = new(0); "+loop(api.MaxObjects, "new(0);")+" new(o);"), api.FaKind, 5)
	faults(t, main(loop(api.MaxOut+1, "print i;")+" print new(0);"), api.FaKind, 4)
	faults(t, deepApply(api.MaxFrames, "o[0].();"), api.FaArity, 4)
	faults(t, deepApply(api.MaxFrames, "n.();"), api.FaKind, 4)
	faults(t, deepApply(api.MaxFrames, "o[0].(1);"), api.FaRoom, 4)
}

// P2.6: how a run ends, and what the outcome says then.
func TestEnds(t *testing.T) {
	for text, want := range map[string]api.Outcome{
		main(""):                          {End: api.EnDone, Steps: 2},
		main("return 4;"):                 {End: api.EnDone, Value: num(4), Steps: 2},
		main("return new(0);"):            {End: api.EnDone, Value: ref(0), Steps: 3},
		main("new(0); return fn () { };"): {End: api.EnDone, Value: fun(1), Steps: 4},
		main("print 3; throw 4;"):         {End: api.EnThrown, Line: 1, Value: num(4), Out: []int64{3}, Steps: 4},
		main("throw new(0);"):             {End: api.EnThrown, Value: ref(0), Steps: 3},
		main("1; try { 2; } catch e { throw 3; } assert 0;"):                                                           {End: api.EnAssert, Line: 4, Steps: 7},
		main("print 1; assert 2 - 2;"):                                                                                 {End: api.EnAssert, Line: 1, Out: []int64{1}, Steps: 6},
		main("print 1; print 2 / 0;"):                                                                                  {End: api.EnFault, Fault: api.FaZero, Line: 1, Out: []int64{1}, Steps: 5},
		main("print 1 / 0;"):                                                                                           {End: api.EnFault, Fault: api.FaZero, Steps: 3},
		main("let o = new(1); lock o; lock o;"):                                                                        {End: api.EnFault, Fault: api.FaLock, Line: 2, Steps: 7},
		main("join 1;"):                                                                                                {End: api.EnFault, Fault: api.FaJoin, Steps: 2},
		main("let g = fn (a) { return a + 1; }; print g.(4);"):                                                         {End: api.EnDone, Out: []int64{5}, Steps: 12},
		main("while 1 { }"):                                                                                            {End: api.EnFuel, Steps: 500},
		"fun f() { throw 7; } fun main() { 1; f(); }":                                                                  {End: api.EnThrown, Line: 0, Value: num(7), Steps: 4},
		"fun main() { 1; f(); } fun f() { try { } catch e { } throw 7; }":                                              {End: api.EnThrown, Line: 3, Value: num(7), Steps: 7},
		"fun f() { throw 7; } fun main() { join spawn f(); }":                                                          {End: api.EnThrown, Line: 0, Value: num(7), Steps: 3},
		"fun f() { assert 0; } fun main() { join spawn f(); }":                                                         {End: api.EnAssert, Line: 0, Steps: 3},
		"fun f() { return 5; } fun main() { join spawn f(); return 6; }":                                               {End: api.EnDone, Value: num(6), Steps: 6},
		"fun f() { print 1; } fun main() { spawn f(); }":                                                               {End: api.EnDone, Steps: 3},
		"fun f(o) { lock o; } fun main() { let o = new(0); lock o; let t = spawn f(o); join t; }":                      {End: api.EnDeadlock, Steps: 10},
		"fun f() { join 0; } fun main() { join spawn f(); }":                                                           {End: api.EnDeadlock, Steps: 2},
		"fun f() { join 2; } fun g() { join 1; } fun main() { spawn f(); spawn g(); join 1; }":                         {End: api.EnDeadlock, Steps: 5},
		"fun f(o) { lock o; } fun main() { let o = new(0); join spawn f(o); lock o; }":                                 {End: api.EnDeadlock, Steps: 11},
		"fun f(o) { lock o; } fun main() { let o = new(0); join spawn f(o); print 5; print o; }":                       {End: api.EnFault, Fault: api.FaKind, Line: 4, Out: []int64{5}, Steps: 14},
		"fun f(o) { unlock o; } fun main() { let o = new(0); lock o; join spawn f(o); }":                               {End: api.EnFault, Fault: api.FaLock, Line: 0, Steps: 9},
		"fun f(o) { join 1; } fun main() { join spawn f(0); }":                                                         {End: api.EnFault, Fault: api.FaJoin, Line: 0, Steps: 4},
		"fun f(o) { lock o; unlock o; print 1; } fun main() { let o = new(0); lock o; spawn f(o); unlock o; join 1; }": {End: api.EnDone, Out: []int64{1}, Steps: 21},
	} {
		if o, e := machine.Run(parsed(t, text), api.Given{}, 500); e != api.OK || !sameOutcome(o, want) {
			t.Errorf("%s: error %d, %+v", text, e, o)
		}
	}
}

func sameOutcome(a, b api.Outcome) bool {
	return machine.Same(api.State{Outcome: a}, api.State{Outcome: b})
}

// P2.5, P2.6: a run that is over, for good.
func TestOverForGood(t *testing.T) {
	for _, text := range []string{
		main("return 1;"), main("throw 1;"), main("1 / 0;"), main("assert 0;"),
		"fun f() { join 0; } fun main() { join spawn f(); }",
		"fun f() { while 1 { } } fun main() { spawn f(); assert 0; }",
		"fun f() { while 1 { } } fun main() { spawn f(); }",
	} {
		m := begun(t, text, api.Given{})
		for !m.Over() {
			if _, ok := m.Step(); !ok {
				t.Fatalf("%s: not over, and no thread to go on", text)
			}
		}
		s := m.State()
		if thread, ok := m.Step(); thread != 0 || ok || len(m.Runnable()) != 0 {
			t.Errorf("%s: thread %d goes on", text, thread)
		}
		if thread, ok := m.Pick(); thread != 0 || ok {
			t.Errorf("%s: thread %d is picked", text, thread)
		}
		for thread := range s.Threads {
			if e := m.StepOf(thread); e != api.ErrState {
				t.Errorf("%s: StepOf(%d): error %d", text, thread, e)
			}
		}
		if o, e := m.Finish(9); e != api.OK || !sameOutcome(o, s.Outcome) || !machine.Same(m.State(), s) {
			t.Errorf("%s: error %d, %+v", text, e, o)
		}
	}
}

// P2.4, P2.6: frames, objects, threads and their numbers, and what they hold, state by state.
func TestFrames(t *testing.T) {
	text := `
fun f(a) { let x = 5; throw a + x; }
fun main() {
  let y = 3;
  let g = fn (p) { try { f(p + y); } catch e { return e; } };
  print g.(4);
  join spawn f(1);
}`
	m := begun(t, text, api.Given{})
	check := func(count int, want ...api.Thread) {
		t.Helper()
		steps(t, m, count)
		if got := m.State(); !machine.Same(api.State{Threads: got.Threads}, api.State{Threads: want}) {
			t.Errorf("behind %d steps: %+v", got.Outcome.Steps, got.Threads)
		}
	}
	// f: a x, two more; main: y g, three more; the closure: p y e, two more
	zero := num(0)
	mainAt := func(pc int, regs ...api.Value) api.Frame { return api.Frame{Chunk: 1, PC: pc, Regs: regs} }
	check(0, api.Thread{Frames: []api.Frame{mainAt(0, zero, zero, zero, zero)}})
	check(2, api.Thread{Frames: []api.Frame{mainAt(2, num(3), zero, num(3), zero)}})
	check(3, api.Thread{Frames: []api.Frame{mainAt(5, num(3), fun(0), fun(0), zero)}})
	caller := mainAt(8, num(3), fun(0), fun(0), num(4))
	check(3, api.Thread{Frames: []api.Frame{caller, {ID: 1, Chunk: 2, Regs: []api.Value{num(4), num(3), zero, zero, zero}}}})
	tries := []api.Handler{{To: 7, Reg: 2}}
	closure := api.Frame{ID: 1, Chunk: 2, PC: 5, Regs: []api.Value{num(4), num(3), zero, num(7), num(3)}, Tries: tries}
	check(5, api.Thread{Frames: []api.Frame{caller, closure, {ID: 2, Chunk: 0, Regs: []api.Value{num(7), zero, zero, zero}}}})
	closure.PC, closure.Tries, closure.Regs = 7, nil, []api.Value{num(4), num(3), num(12), num(7), num(3)}
	check(6, api.Thread{Frames: []api.Frame{caller, closure}})
	caller.Regs = []api.Value{num(3), fun(0), num(12), num(4)}
	check(2, api.Thread{Frames: []api.Frame{caller}})
	check(3, api.Thread{Frames: []api.Frame{mainAt(11, num(3), fun(0), num(1), num(4))}},
		api.Thread{Frames: []api.Frame{{ID: 3, Chunk: 0, Regs: []api.Value{num(1), zero, zero, zero}}}})
	check(6, api.Thread{Frames: []api.Frame{mainAt(11, num(3), fun(0), num(1), num(4))}}, api.Thread{})
	s := m.State()
	want := api.State{Threads: s.Threads, Frames: 4, Objects: []api.Object{{Chunk: 2, Cells: []api.Value{num(3)}, Owner: -1}},
		Outcome: api.Outcome{End: api.EnThrown, Line: 1, Value: num(6), Out: []int64{12}, Steps: 30}}
	if !machine.Same(s, want) {
		t.Errorf("at the end: %+v", s)
	}
}

// P2.4, P2.6: what a thread ends with, owners of locks, and what was read, as the state tells it.
func TestObjects(t *testing.T) {
	text := "fun f(o) { lock o; return o; } fun main() { let o = new(2); o[1] = fn () { }; join spawn f(o); input; clock; input; lock o[0]; }"
	m := begun(t, text, given())
	o, e := m.Finish(99)
	s := m.State()
	want := api.State{Frames: 2, Inputs: 2, Clocks: 1, Threads: []api.Thread{s.Threads[0], {Result: ref(0)}}, Outcome: o,
		Objects: []api.Object{{Chunk: -1, Cells: []api.Value{num(0), fun(1)}, Owner: 1}, {Chunk: 2, Owner: -1}}}
	if e != api.OK || o.End != api.EnFault || o.Fault != api.FaKind || !machine.Same(s, want) {
		t.Errorf("error %d, %+v", e, s)
	}
}

// R2: an outcome has nothing beside what its end calls for.
func TestOutcomeFields(t *testing.T) {
	m := begun(t, main("try { throw 3; } catch e { } while 1 { }"), api.Given{})
	o, e := m.Finish(50)
	if want := (api.Outcome{End: api.EnFuel, Steps: 50}); e != api.OK || !reflect.DeepEqual(o, want) {
		t.Errorf("error %d, %+v", e, o)
	}
	if s := m.State(); !reflect.DeepEqual(s.Outcome, api.Outcome{Steps: 50}) {
		t.Errorf("%+v", s.Outcome)
	}
}

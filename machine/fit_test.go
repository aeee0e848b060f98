package machine_test

import (
	"slices"
	"testing"

	"sleuth/api"
	"sleuth/machine"
)

// nested is a program with calls inside of calls, closures, handlers, threads and locks.
const nested = `
fun f(o, n) {
  try {
    let g = fn (x) {
      try { o[0] = x; f(o, n - 1); } catch e { throw e; }
    };
    if n { g.(n); }
    while 1 { n = n + 1; }
  } catch c { }
}
fun h(v) { return v; }
fun main() {
  let o = new(2);
  o[1] = fn () { };
  print input + clock;
  spawn h(o);
  join 1;
  lock o;
  spawn f(o, 2);
  f(o, 1);
}`

// midway returns a state of a run of nested in which thread 1 has ended, and the others are deep in calls.
func midway(t *testing.T) api.State {
	t.Helper()
	m := begun(t, nested, given())
	for len(m.State().Threads) < 3 {
		steps(t, m, 1)
	}
	for range 100 {
		for _, thread := range []int{0, 2} {
			if e := m.StepOf(thread); e != api.OK {
				t.Fatalf("thread %d: error %d", thread, e)
			}
		}
	}
	return m.State()
}

// current returns the current frame of a thread.
func current(s *api.State, thread int) *api.Frame {
	l := s.Threads[thread].Frames
	return &l[len(l)-1]
}

// misfits are ways to change the state midway so that it does not fit.
var misfits = map[string]func(s *api.State){
	"no thread":                      func(s *api.State) { s.Threads = nil },
	"thread 0 has ended":             func(s *api.State) { s.Threads[0].Frames = nil },
	"too many threads":               func(s *api.State) { s.Threads = append(s.Threads, make([]api.Thread, api.MaxThreads-2)...) },
	"too many frames":                func(s *api.State) { deepen(s, api.MaxFrames+1) },
	"a result beside frames":         func(s *api.State) { s.Threads[2].Result = num(1) },
	"a result beside one frame":      func(s *api.State) { s.Threads[2] = api.Thread{Frames: s.Threads[2].Frames[:1], Result: num(1)} },
	"the last caller behind no call": func(s *api.State) { s.Threads[0].Frames[2].PC-- },
	"a result of no kind":            func(s *api.State) { s.Threads[1].Result = api.Value{Kind: 3} },
	"a result that is no object":     func(s *api.State) { s.Threads[1].Result = ref(int64(len(s.Objects))) },
	"chunk -1":                       func(s *api.State) { current(s, 0).Chunk = -1 },
	"a chunk that there is not":      func(s *api.State) { current(s, 0).Chunk = 5 },
	"another chunk":                  func(s *api.State) { current(s, 0).Chunk = 2 },
	"PC -1":                          func(s *api.State) { current(s, 0).PC = -1 },
	"the PC of a caller is 0":        func(s *api.State) { s.Threads[0].Frames[0].PC = 0 },
	"a caller behind no call":        func(s *api.State) { s.Threads[0].Frames[0].PC-- },
	"a caller behind a spawn":        func(s *api.State) { s.Threads[0].Frames[0].PC = 20 },
	"PC behind the code":             func(s *api.State) { current(s, 0).PC = 21 },
	"PC far behind the code":         func(s *api.State) { current(s, 0).PC = 1<<63 - 1 },
	"a register less":                func(s *api.State) { current(s, 0).Regs = current(s, 0).Regs[1:] },
	"a register more":                func(s *api.State) { current(s, 0).Regs = append(current(s, 0).Regs, num(0)) },
	"no handler":                     func(s *api.State) { current(s, 0).Tries = nil },
	"a handler twice":                func(s *api.State) { current(s, 0).Tries = slices.Repeat(current(s, 0).Tries, 2) },
	"another handler":                func(s *api.State) { current(s, 0).Tries[0].To-- },
	"another register of a handler":  func(s *api.State) { current(s, 0).Tries[0].Reg-- },
	"ahead of its try":               func(s *api.State) { current(s, 0).PC = 0 },
	"behind its end":                 func(s *api.State) { current(s, 0).PC = 18 },
	"an ID twice":                    func(s *api.State) { s.Threads[0].Frames[1].ID = 0 },
	"an ID twice, in two threads":    func(s *api.State) { s.Threads[2].Frames[0].ID = s.Threads[0].Frames[1].ID },
	"an ID that was not made":        func(s *api.State) { current(s, 2).ID = s.Frames },
	"an ID below 0":                  func(s *api.State) { current(s, 2).ID = -1 },
	"too many objects":               func(s *api.State) { addObjects(s, api.MaxObjects+1) },
	"too many cells":                 func(s *api.State) { addCells(s, api.MaxCells+1) },
	"an owner that there is not":     func(s *api.State) { s.Objects[0].Owner = 3 },
	"owner -2":                       func(s *api.State) { s.Objects[0].Owner = -2 },
	"a closure's owner":              func(s *api.State) { s.Objects[1].Owner = 3 },
	"an object of a function":        func(s *api.State) { s.Objects[3].Chunk = 0 },
	"an object of no chunk":          func(s *api.State) { s.Objects[3].Chunk = 5 },
	"an object of chunk -2":          func(s *api.State) { s.Objects[3].Chunk = -2 },
	"a closure of another chunk":     func(s *api.State) { s.Objects[3].Chunk = 4 },
	"a closure that holds less":      func(s *api.State) { s.Objects[3].Cells = s.Objects[3].Cells[1:] },
	"a closure that holds more":      func(s *api.State) { s.Objects[1].Cells = make([]api.Value, 1) },
	"a closure without a chunk":      func(s *api.State) { s.Objects[3].Chunk = -1 },
	"an object that is a closure":    func(s *api.State) { s.Objects[0].Chunk = 3 },
	"a register of no kind":          func(s *api.State) { current(s, 0).Regs[0] = api.Value{Kind: 3} },
	"a register of no object":        func(s *api.State) { current(s, 0).Regs[0] = ref(int64(len(s.Objects))) },
	"a register of an object -1":     func(s *api.State) { current(s, 0).Regs[0] = ref(-1) },
	"a register of no closure":       func(s *api.State) { current(s, 0).Regs[0] = fun(0) },
	"a reference to a closure":       func(s *api.State) { current(s, 0).Regs[0] = ref(1) },
	"a register of a caller":         func(s *api.State) { s.Threads[2].Frames[1].Regs[3] = fun(-1) },
	"a cell of no kind":              func(s *api.State) { s.Objects[0].Cells[0] = api.Value{Kind: 255} },
	"a cell of no object":            func(s *api.State) { s.Objects[0].Cells[1] = fun(1 << 40) },
	"a cell of a closure":            func(s *api.State) { s.Objects[3].Cells[0] = fun(0) },
	"a number less of inputs":        func(s *api.State) { s.Inputs = -1 },
	"more inputs than there are":     func(s *api.State) { s.Inputs = 3 },
	"a number less of clock values":  func(s *api.State) { s.Clocks = -1 },
	"more clocks than there are":     func(s *api.State) { s.Clocks = 2 },
	"it is over with EnDone":         func(s *api.State) { s.Outcome.End = api.EnDone },
	"it is over with EnDeadlock":     func(s *api.State) { s.Outcome.End = api.EnDeadlock },
	"it is over with EnFuel":         func(s *api.State) { s.Outcome.End = api.EnFuel },
	"an end that there is not":       func(s *api.State) { s.Outcome.End = 200 },
	"a fault":                        func(s *api.State) { s.Outcome.Fault = api.FaKind },
	"a fault that there is not":      func(s *api.State) { s.Outcome.Fault = 200 },
	"line 1":                         func(s *api.State) { s.Outcome.Line = 1 },
	"line -1":                        func(s *api.State) { s.Outcome.Line = -1 },
	"a value":                        func(s *api.State) { s.Outcome.Value = num(1) },
	"a value that is an object":      func(s *api.State) { s.Outcome.Value = ref(0) },
	"too much output":                func(s *api.State) { s.Outcome.Out = make([]int64, api.MaxOut+1) },
	"steps -1":                       func(s *api.State) { s.Outcome.Steps = -1 },
	"too many steps":                 func(s *api.State) { s.Outcome.Steps = api.MaxSteps + 1 },
	"more frames than steps":         func(s *api.State) { s.Outcome.Steps = s.Frames - 2 },
	"more frames than there were":    func(s *api.State) { s.Frames = s.Outcome.Steps + 2 },
	"no frames, and no steps":        func(s *api.State) { s.Frames, s.Outcome.Steps = 0, 0 },
	"frames below 0":                 func(s *api.State) { s.Frames = -1 << 63 },
	"steps without an end":           func(s *api.State) { s.Outcome.Steps = 1<<63 - 1 },
	"no objects":                     func(s *api.State) { s.Objects = nil },
	"not even the thread of a frame": func(s *api.State) { s.Threads[0].Frames = make([]api.Frame, 1) },
}

// fitting are ways to change the state midway so that it still fits: up to the limits, among others.
var fitting = map[string]func(s *api.State){
	"nothing":                       func(*api.State) {},
	"all threads":                   func(s *api.State) { s.Threads = append(s.Threads, make([]api.Thread, api.MaxThreads-3)...) },
	"all frames":                    func(s *api.State) { deepen(s, api.MaxFrames) },
	"all objects":                   func(s *api.State) { addObjects(s, api.MaxObjects) },
	"all cells":                     func(s *api.State) { addCells(s, api.MaxCells) },
	"all inputs and clock values":   func(s *api.State) { s.Inputs, s.Clocks = 2, 1 },
	"no inputs and no clock values": func(s *api.State) { s.Inputs, s.Clocks = 0, 0 },
	"all output":                    func(s *api.State) { s.Outcome.Out = make([]int64, api.MaxOut) },
	"no output":                     func(s *api.State) { s.Outcome.Out = nil },
	"all steps":                     func(s *api.State) { s.Outcome.Steps = api.MaxSteps },
	"a frame a step":                func(s *api.State) { s.Outcome.Steps = s.Frames - 1 },
	"as many frames as steps":       func(s *api.State) { s.Frames = s.Outcome.Steps + 1 },
	"the last ID":                   func(s *api.State) { s.Frames = 99; current(s, 0).ID = 98 },
	"the owner has ended":           func(s *api.State) { s.Objects[0].Owner = 1 },
	"a closure has an owner":        func(s *api.State) { s.Objects[1].Owner = 2 },
	"any numbers":                   func(s *api.State) { current(s, 0).Regs[1], s.Objects[0].Cells[0] = num(-1<<63), num(1<<63-1) },
	"other values":                  func(s *api.State) { current(s, 0).Regs[1], s.Objects[0].Cells[0] = ref(0), fun(1) },
	"a result that is a closure":    func(s *api.State) { s.Threads[1].Result = fun(1) },
	"a frame less":                  func(s *api.State) { s.Threads[2].Frames = s.Threads[2].Frames[:1] },
	"thread 0 alone":                func(s *api.State) { s.Threads = s.Threads[:1] },
	"at its try":                    func(s *api.State) { current(s, 0).PC, current(s, 0).Tries = 0, nil },
	"behind its try":                func(s *api.State) { current(s, 0).PC = 1 },
	"at its end":                    func(s *api.State) { current(s, 0).PC = 17 },
	"behind its end":                func(s *api.State) { current(s, 0).PC, current(s, 0).Tries = 18, nil },
	"at the handler":                func(s *api.State) { current(s, 0).PC, current(s, 0).Tries = 19, nil },
	"at the last code":              func(s *api.State) { current(s, 0).PC, current(s, 0).Tries = 20, nil },
}

// deepen puts frames under those of thread 2, up to so many.
func deepen(s *api.State, count int) {
	l := &s.Threads[2].Frames
	for len(*l) < count {
		f := (*l)[0]
		f.ID, s.Frames, s.Outcome.Steps = s.Frames, s.Frames+1, s.Outcome.Steps+1
		*l = slices.Insert(*l, 0, f)
	}
}

// addObjects adds objects without cells, up to so many.
func addObjects(s *api.State, count int) {
	for len(s.Objects) < count {
		s.Objects = append(s.Objects, api.Object{Chunk: -1, Owner: -1})
	}
}

// addCells adds an object, so that there are so many cells.
func addCells(s *api.State, count int) {
	for _, o := range s.Objects {
		count -= len(o.Cells)
	}
	s.Objects = append(s.Objects, api.Object{Chunk: -1, Owner: -1, Cells: make([]api.Value, count)})
}

// P2.2: which states fit.
func TestResumeFits(t *testing.T) {
	p := parsed(t, nested)
	for what, change := range misfits {
		s := midway(t)
		change(&s)
		before := machine.Bytes(s)
		if m, e := machine.Resume(p, given(), s); e != api.ErrState || m != nil {
			t.Errorf("%s: error %d", what, e)
		}
		if !slices.Equal(machine.Bytes(s), before) {
			t.Errorf("%s: the state was changed", what)
		}
	}
	for what, change := range fitting {
		s := midway(t)
		change(&s)
		m, e := machine.Resume(p, given(), s)
		if e != api.OK {
			t.Errorf("%s: error %d", what, e)
			continue
		}
		want := s
		if len(m.Runnable()) == 0 {
			want.Outcome.End = api.EnDeadlock
		}
		if !machine.Same(m.State(), want) {
			t.Errorf("%s: %+v", what, m.State())
		}
		m.Finish(2000)
	}
}

// P2.2: the midway state is what its changes take it for.
func TestMidway(t *testing.T) {
	s := midway(t)
	if f := current(&s, 0); f.Chunk != 0 || len(f.Tries) != 1 || f.Tries[0].To != 19 || len(s.Threads[0].Frames) != 4 || len(s.Threads[2].Frames) != 5 {
		t.Errorf("%+v", s.Threads)
	}
	if o := s.Objects; len(o) != 7 || o[0].Owner != 0 || o[1].Chunk != 4 || o[3].Chunk != 3 || len(o[3].Cells) != 2 || s.Inputs != 1 || s.Clocks != 1 {
		t.Errorf("%+v", s)
	}
	c := compiled(t, nested).Chunks
	if asm(c[0].Code[17]) != "end" || len(c[0].Code) != 21 || len(c) != 5 || c[2].Code[19].Op != api.OpSpawn {
		t.Errorf("%s\n%s", listing(c[0]), listing(c[2]))
	}
}

// P2.2: a state fits only the program, and what is given, that it is of.
func TestResumeOther(t *testing.T) {
	s := midway(t)
	for _, text := range []string{main(""), main("while 1 { }"), racing} {
		if m, e := machine.Resume(parsed(t, text), given(), s); e != api.ErrState || m != nil {
			t.Errorf("%s: error %d", text, e)
		}
	}
	for _, g := range []api.Given{{}, {Inputs: []int64{1}}, {Clocks: []int64{1}}} {
		if m, e := machine.Resume(parsed(t, nested), g, s); e != api.ErrState || m != nil {
			t.Errorf("%+v: error %d", g, e)
		}
	}
	if _, e := machine.Resume(parsed(t, nested), api.Given{Inputs: []int64{1}, Clocks: []int64{1}}, s); e != api.OK {
		t.Errorf("error %d", e)
	}
}

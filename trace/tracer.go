package trace

import "sleuth/api"

// tracer is how far a run has been followed. What places hold, it knows from what the steps so far wrote; beside that it keeps where the run goes on, and who decided that.
type tracer struct {
	*Trace
	deciders [][][]int // by chunks and addresses
	threads  [][]frame // of each thread its frames, the current one last
	closures []int     // of each object its chunk, or -1
	taken    [2]int    // how many inputs, and clock values, were read
	printed  int
	decided  map[decision]int   // the last step that decided
	pasts    map[api.Place]past // what is before the next step of a thread, or before a step that waited for a thread or a lock
	now      step               // the step that is under way
}

// frame is a call that is under way.
type frame struct {
	id, chunk, pc int
	tries         []handler
}

// handler is where a frame goes on when something is thrown, the register into which that is put, and where the OpTry stands.
type handler struct{ to, register, at int }

// decision is an OpBranch or OpTry of a frame, by its address.
type decision struct{ frame, at int }

// follow makes the steps of a run; faults tells whether the last one does.
func (t *Trace) follow(picks []api.Pick, steps int, faults bool) {
	x := &tracer{Trace: t, decided: map[decision]int{}, pasts: map[api.Place]past{}}
	for _, c := range t.code.Chunks {
		x.deciders = append(x.deciders, deciders(c.Code))
	}
	registers := t.code.Chunks[t.code.Main].Regs
	t.first = [][]int64{make([]int64, registers)}
	t.frames = []birth{{-1, registers}}
	x.threads = [][]frame{{{chunk: t.code.Main}}}
	for _, pick := range picks {
		for range pick.Count {
			x.take(pick.Thread, faults && len(t.steps) == steps-1)
		}
	}
}

// current returns the current frame of a thread.
func (x *tracer) current(thread int) *frame {
	frames := x.threads[thread]
	return &frames[len(frames)-1]
}

// take lets a thread take the next step.
func (x *tracer) take(thread int, faults bool) {
	f := x.current(thread)
	i := x.code.Chunks[f.chunk].Code[f.pc]
	x.now = step{instr: i}
	x.now.Event = api.Event{Thread: thread, Frame: f.id, Chunk: f.chunk, PC: f.pc, Line: i.Line, Control: x.control(f)}
	first, roles := operands(i)
	for k, role := range roles {
		if faults {
			role = api.RoTest
		}
		x.read(register(f.id, first+k), role)
	}
	if !faults {
		x.readFurther()
		f.pc++
		x.write()
	}
	x.order()
	x.steps = append(x.steps, x.now)
}

// control returns the Control of the step that a frame takes next.
func (x *tracer) control(f *frame) int {
	last := -1
	for _, at := range x.deciders[f.chunk][f.pc] {
		if n, ok := x.decided[decision{f.id, at}]; ok {
			last = max(last, n)
		}
	}
	if last < 0 {
		return x.frames[f.id].step
	}
	return last
}

// decide notes that the step decides in a frame, by the OpBranch or OpTry at an address.
func (x *tracer) decide(frame, at int) { x.decided[decision{frame, at}] = len(x.steps) }

func (x *tracer) read(q api.Place, role api.Role) {
	n := len(x.steps)
	v, ok := x.value(n, q)
	if !ok {
		v = number(-1) // a lock without an owner: no other place is read that holds nothing
	}
	x.now.Reads = append(x.now.Reads, api.Read{Place: q, Value: v, Role: role, From: x.writer(n, q)})
}

// readFurther reads what is not in registers.
func (x *tracer) readFurther() {
	s := &x.now
	switch s.instr.Op {
	case api.OpLoad:
		x.read(cell(s.Reads[0].Value, s.Reads[1].Value), api.RoValue)
	case api.OpLen:
		x.read(whole(api.PlLen, s.target()), api.RoValue)
	case api.OpApply:
		for k := range x.code.Chunks[x.closures[s.target()]].Held {
			x.read(cell(s.Reads[0].Value, number(k)), api.RoValue)
		}
	case api.OpInput:
		x.readGiven(0)
	case api.OpClock:
		x.readGiven(1)
	case api.OpJoin:
		x.read(whole(api.PlThread, s.target()), api.RoOrder)
	case api.OpLock, api.OpUnlock:
		x.read(whole(api.PlLock, s.target()), api.RoOrder)
	}
}

// target returns the number of the object or thread that the first register says.
func (s *step) target() int { return int(s.Reads[0].Value.N) }

// readGiven reads the next input, or clock value.
func (x *tracer) readGiven(a int) {
	x.read(api.Place{Kind: api.PlGiven, A: a, B: x.taken[a]}, api.RoValue)
	x.taken[a]++
}

// put writes a place: what the instruction makes of the reads that feed the write, or, if there are none, a value.
func (x *tracer) put(q api.Place, v api.Value) {
	m := mark{len(x.steps), len(x.now.Writes)}
	if reads := x.now.feeding(m.write); len(reads) > 0 {
		v = made(x.now.instr, reads)
	}
	x.now.Writes = append(x.now.Writes, api.Write{Place: q, Value: v})
	if b, ok := x.born(q); !ok || b != m {
		x.marks[q] = append(x.marks[q], m)
	}
}

// fed writes a place that some reads feed.
func (x *tracer) fed(q api.Place) { x.put(q, api.Value{}) }

// write writes what the instruction writes, and lets the thread go on.
func (x *tracer) write() {
	s := &x.now
	i, d := s.instr, register(s.Frame, s.instr.D)
	switch i.Op {
	case api.OpConst:
		x.put(d, api.Value{Kind: api.VaInt, N: i.K})
	case api.OpMove, api.OpUnary, api.OpBinary, api.OpLoad, api.OpLen, api.OpInput, api.OpClock:
		x.fed(d)
	case api.OpNew:
		x.put(d, x.object(api.VaRef, -1, s.target()))
	case api.OpClose:
		x.put(d, x.object(api.VaFun, i.A, i.B))
	case api.OpStore:
		x.fed(cell(s.Reads[0].Value, s.Reads[1].Value))
	case api.OpCall:
		x.enter(s.Thread, i.A)
	case api.OpApply:
		x.enter(s.Thread, x.closures[s.target()])
	case api.OpSpawn:
		x.put(d, x.begin(i.A))
	case api.OpLock:
		x.put(whole(api.PlLock, s.target()), number(s.Thread))
	case api.OpUnlock:
		x.put(whole(api.PlLock, s.target()), number(-1))
	case api.OpPrint:
		x.fed(whole(api.PlOut, x.printed))
		x.printed++
	default:
		x.move(x.current(s.Thread))
	}
}

// object writes a new object, and returns the value that refers to it.
func (x *tracer) object(kind api.ValueKind, chunk, cells int) api.Value {
	v := api.Value{Kind: kind, N: int64(len(x.closures))}
	x.closures = append(x.closures, chunk)
	x.put(whole(api.PlLen, int(v.N)), number(cells))
	for k := range cells {
		x.put(cell(v, number(k)), number(0))
	}
	return v
}

// enter makes a new frame of a chunk the current one of a thread.
func (x *tracer) enter(thread, chunk int) {
	f := frame{id: len(x.frames), chunk: chunk}
	x.threads[thread] = append(x.threads[thread], f)
	b := birth{len(x.steps), x.code.Chunks[chunk].Regs}
	x.frames = append(x.frames, b)
	for k := range b.registers {
		x.put(register(f.id, k), number(0))
	}
}

// begin makes a new thread, and returns its number.
func (x *tracer) begin(chunk int) api.Value {
	thread := len(x.threads)
	x.threads = append(x.threads, nil)
	x.enter(thread, chunk)
	x.put(whole(api.PlThread, thread), number(0))
	return number(thread)
}

// move carries out an instruction that does no more than say where its thread goes on.
func (x *tracer) move(f *frame) {
	s := &x.now
	switch i := s.instr; i.Op {
	case api.OpJump:
		f.pc = i.A
	case api.OpBranch:
		x.decide(f.id, s.PC)
		if s.Reads[0].Value.N == 0 {
			f.pc = i.A
		}
	case api.OpTry:
		f.tries = append(f.tries, handler{i.A, i.B, s.PC})
	case api.OpEnd:
		f.tries = f.tries[:len(f.tries)-1]
	case api.OpReturn:
		x.giveBack(s.Thread)
	case api.OpThrow:
		x.throw(s.Thread)
	}
}

// leave takes the current frame of a thread away, and reports whether the thread has another one.
func (x *tracer) leave(thread int) bool {
	frames := x.threads[thread]
	x.threads[thread] = frames[:len(frames)-1]
	return len(frames) > 1
}

func (x *tracer) giveBack(thread int) {
	if !x.leave(thread) {
		x.fed(whole(api.PlThread, thread))
		return
	}
	f := x.current(thread)
	x.fed(register(f.id, x.code.Chunks[f.chunk].Code[f.pc-1].D))
}

func (x *tracer) throw(thread int) {
	for len(x.current(thread).tries) == 0 {
		if !x.leave(thread) {
			return
		}
	}
	f := x.current(thread)
	h := f.tries[len(f.tries)-1]
	f.tries = f.tries[:len(f.tries)-1]
	f.pc = h.to
	x.fed(register(f.id, h.register))
	x.decide(f.id, h.at)
}

package machine

import (
	"slices"

	"sleuth/api"
)

// effect carries out an instruction of a thread, whose PC is behind it already. With a fault it changes nothing.
type effect = func(m *Machine, thread int, i api.Instr) api.Fault

// effects returns the effects of the operations that stand in compiled code.
func effects() [api.OpAssert + 1]effect {
	return [...]effect{
		api.OpConst:  (*Machine).putConst,
		api.OpMove:   (*Machine).move,
		api.OpUnary:  (*Machine).unary,
		api.OpBinary: (*Machine).binary,
		api.OpNew:    (*Machine).makeObject,
		api.OpLoad:   (*Machine).load,
		api.OpStore:  (*Machine).store,
		api.OpLen:    (*Machine).length,
		api.OpClose:  (*Machine).makeClosure,
		api.OpCall:   (*Machine).call,
		api.OpApply:  (*Machine).apply,
		api.OpSpawn:  (*Machine).spawn,
		api.OpInput:  (*Machine).readInput,
		api.OpClock:  (*Machine).readClock,
		api.OpJump:   (*Machine).jump,
		api.OpBranch: (*Machine).branch,
		api.OpReturn: (*Machine).giveBack,
		api.OpThrow:  (*Machine).throw,
		api.OpTry:    (*Machine).try,
		api.OpEnd:    (*Machine).endTry,
		api.OpJoin:   (*Machine).join,
		api.OpLock:   (*Machine).lock,
		api.OpUnlock: (*Machine).unlock,
		api.OpPrint:  (*Machine).print,
		api.OpAssert: (*Machine).assert,
	}
}

// regs returns the registers of a thread's current frame.
func (m *Machine) regs(thread int) []api.Value { return m.current(thread).Regs }

func (m *Machine) putConst(thread int, i api.Instr) api.Fault {
	m.regs(thread)[i.D] = number(i.K)
	return api.FaNone
}

func (m *Machine) move(thread int, i api.Instr) api.Fault {
	r := m.regs(thread)
	r[i.D] = r[i.A]
	return api.FaNone
}

func (m *Machine) unary(thread int, i api.Instr) api.Fault {
	v := &m.regs(thread)[i.D]
	switch {
	case !isNumber(*v):
		return api.FaKind
	case i.A == negate:
		*v = number(-v.N)
	default:
		*v = truth(v.N == 0)
	}
	return api.FaNone
}

func (m *Machine) binary(thread int, i api.Instr) api.Fault {
	r := m.regs(thread)
	v, fault := Binary(i.A, r[i.D], r[i.D+1])
	if fault == api.FaNone {
		r[i.D] = v
	}
	return fault
}

func (m *Machine) makeObject(thread int, i api.Instr) api.Fault {
	v := &m.regs(thread)[i.D]
	switch {
	case !isNumber(*v):
		return api.FaKind
	case v.N < 0:
		return api.FaRange
	case !m.hasRoom(v.N):
		return api.FaRoom
	}
	*v = api.Value{Kind: api.VaRef, N: m.add(-1, make([]api.Value, v.N))}
	return api.FaNone
}

// hasRoom reports whether there may be one more object, of so many cells.
func (m *Machine) hasRoom(cells int64) bool {
	return len(m.objects) < api.MaxObjects && cells <= int64(api.MaxCells-cellsOf(m.objects))
}

// add adds an object, and returns its number.
func (m *Machine) add(chunk int, cells []api.Value) int64 {
	m.objects = append(m.objects, api.Object{Chunk: chunk, Cells: cells, Owner: -1})
	return int64(len(m.objects) - 1)
}

// cell returns the cell of an object with an index.
func (m *Machine) cell(object, index api.Value) (*api.Value, api.Fault) {
	if object.Kind != api.VaRef || !isNumber(index) {
		return nil, api.FaKind
	}
	cells := m.objects[object.N].Cells
	if index.N < 0 || index.N >= int64(len(cells)) {
		return nil, api.FaRange
	}
	return &cells[index.N], api.FaNone
}

func (m *Machine) load(thread int, i api.Instr) api.Fault {
	r := m.regs(thread)
	c, fault := m.cell(r[i.D], r[i.D+1])
	if fault == api.FaNone {
		r[i.D] = *c
	}
	return fault
}

func (m *Machine) store(thread int, i api.Instr) api.Fault {
	r := m.regs(thread)
	c, fault := m.cell(r[i.D], r[i.D+1])
	if fault == api.FaNone {
		*c = r[i.D+2]
	}
	return fault
}

func (m *Machine) length(thread int, i api.Instr) api.Fault {
	v := &m.regs(thread)[i.D]
	if v.Kind != api.VaRef {
		return api.FaKind
	}
	*v = number(int64(len(m.objects[v.N].Cells)))
	return api.FaNone
}

func (m *Machine) makeClosure(thread int, i api.Instr) api.Fault {
	if !m.hasRoom(int64(i.B)) {
		return api.FaRoom
	}
	r := m.regs(thread)
	r[i.D] = api.Value{Kind: api.VaFun, N: m.add(i.A, slices.Clone(r[i.D:i.D+i.B]))}
	return api.FaNone
}

// frame makes a frame of a chunk, whose first registers are some values.
func (m *Machine) frame(chunk int, values []api.Value) api.Frame {
	f := api.Frame{ID: m.frames, Chunk: chunk, Regs: make([]api.Value, m.code.Chunks[chunk].Regs)}
	m.frames++
	copy(f.Regs, values)
	return f
}

// begin adds a thread that begins with a chunk, and returns its number.
func (m *Machine) begin(chunk int, values []api.Value) int64 {
	m.threads = append(m.threads, api.Thread{Frames: []api.Frame{m.frame(chunk, values)}})
	return int64(len(m.threads) - 1)
}

// enter makes a frame of a chunk the current one of a thread.
func (m *Machine) enter(thread, chunk int, values []api.Value) api.Fault {
	t := &m.threads[thread]
	if len(t.Frames) == api.MaxFrames {
		return api.FaRoom
	}
	t.Frames = append(t.Frames, m.frame(chunk, values))
	return api.FaNone
}

func (m *Machine) call(thread int, i api.Instr) api.Fault {
	return m.enter(thread, i.A, m.regs(thread)[i.D:i.D+i.B])
}

func (m *Machine) apply(thread int, i api.Instr) api.Fault {
	r := m.regs(thread)
	if r[i.D].Kind != api.VaFun {
		return api.FaKind
	}
	closure := m.objects[r[i.D].N]
	if m.code.Chunks[closure.Chunk].Params != i.B {
		return api.FaArity
	}
	return m.enter(thread, closure.Chunk, slices.Concat(r[i.D+1:i.D+1+i.B], closure.Cells))
}

func (m *Machine) spawn(thread int, i api.Instr) api.Fault {
	if len(m.threads) == api.MaxThreads {
		return api.FaRoom
	}
	r := m.regs(thread)
	r[i.D] = number(m.begin(i.A, r[i.D:i.D+i.B]))
	return api.FaNone
}

func (m *Machine) readInput(thread int, i api.Instr) api.Fault {
	return m.read(m.given.Inputs, &m.inputs, &m.regs(thread)[i.D])
}

func (m *Machine) readClock(thread int, i api.Instr) api.Fault {
	return m.read(m.given.Clocks, &m.clocks, &m.regs(thread)[i.D])
}

// read puts the next of the numbers that are given, of which so many have been read, into a register.
func (m *Machine) read(given []int64, count *int, register *api.Value) api.Fault {
	if *count == len(given) {
		return api.FaGiven
	}
	*register = number(given[*count])
	*count++
	return api.FaNone
}

func (m *Machine) jump(thread int, i api.Instr) api.Fault {
	m.current(thread).PC = i.A
	return api.FaNone
}

func (m *Machine) branch(thread int, i api.Instr) api.Fault {
	v := m.regs(thread)[i.D]
	if !isNumber(v) {
		return api.FaKind
	}
	if v.N == 0 {
		return m.jump(thread, i)
	}
	return api.FaNone
}

// leave takes the current frame of a thread away, and reports whether it has another one.
func (m *Machine) leave(thread int) bool {
	t := &m.threads[thread]
	t.Frames = t.Frames[:len(t.Frames)-1]
	return len(t.Frames) > 0
}

func (m *Machine) giveBack(thread int, i api.Instr) api.Fault {
	v := m.regs(thread)[i.D]
	if m.leave(thread) {
		f := m.current(thread)
		f.Regs[m.code.Chunks[f.Chunk].Code[f.PC-1].D] = v
		return api.FaNone
	}
	m.threads[thread].Result = v
	if thread == 0 {
		m.outcome.End, m.outcome.Value = api.EnDone, v
	}
	return api.FaNone
}

func (m *Machine) throw(thread int, i api.Instr) api.Fault {
	v := m.regs(thread)[i.D]
	for len(m.current(thread).Tries) == 0 {
		if !m.leave(thread) {
			m.outcome.End, m.outcome.Value, m.outcome.Line = api.EnThrown, v, i.Line
			return api.FaNone
		}
	}
	f := m.current(thread)
	h := f.Tries[len(f.Tries)-1]
	f.Tries = f.Tries[:len(f.Tries)-1]
	f.Regs[h.Reg], f.PC = v, h.To
	return api.FaNone
}

func (m *Machine) try(thread int, i api.Instr) api.Fault {
	f := m.current(thread)
	f.Tries = append(f.Tries, api.Handler{To: i.A, Reg: i.B})
	return api.FaNone
}

func (m *Machine) endTry(thread int, _ api.Instr) api.Fault {
	f := m.current(thread)
	f.Tries = f.Tries[:len(f.Tries)-1]
	return api.FaNone
}

// join only looks whether there is something to wait for: that it is waited for is what makes a thread runnable or not.
func (m *Machine) join(thread int, i api.Instr) api.Fault {
	v := m.regs(thread)[i.D]
	if !isNumber(v) {
		return api.FaKind
	}
	if other, ok := m.threadOf(v); !ok || other == thread {
		return api.FaJoin
	}
	return api.FaNone
}

func (m *Machine) lock(thread int, i api.Instr) api.Fault {
	v := m.regs(thread)[i.D]
	if v.Kind != api.VaRef {
		return api.FaKind
	}
	o := &m.objects[v.N]
	if o.Owner == thread {
		return api.FaLock
	}
	o.Owner = thread
	return api.FaNone
}

func (m *Machine) unlock(thread int, i api.Instr) api.Fault {
	v := m.regs(thread)[i.D]
	if v.Kind != api.VaRef {
		return api.FaKind
	}
	o := &m.objects[v.N]
	if o.Owner != thread {
		return api.FaLock
	}
	o.Owner = -1
	return api.FaNone
}

func (m *Machine) print(thread int, i api.Instr) api.Fault {
	v := m.regs(thread)[i.D]
	if !isNumber(v) {
		return api.FaKind
	}
	if len(m.outcome.Out) == api.MaxOut {
		return api.FaRoom
	}
	m.outcome.Out = append(m.outcome.Out, v.N)
	return api.FaNone
}

func (m *Machine) assert(thread int, i api.Instr) api.Fault {
	v := m.regs(thread)[i.D]
	if !isNumber(v) {
		return api.FaKind
	}
	if v.N == 0 {
		m.end(api.EnAssert, thread, i)
	}
	return api.FaNone
}

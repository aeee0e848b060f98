package machine

import (
	"slices"

	"sleuth/api"
)

func (m *Machine) isOver() bool { return m.outcome.End != api.EnNone }

func (m *Machine) hasEnded(thread int) bool { return len(m.threads[thread].Frames) == 0 }

// current returns the current frame of a thread that has not ended.
func (m *Machine) current(thread int) *api.Frame {
	frames := m.threads[thread].Frames
	return &frames[len(frames)-1]
}

// next returns the instruction that a thread that has not ended would carry out next.
func (m *Machine) next(thread int) api.Instr {
	f := m.current(thread)
	return m.code.Chunks[f.Chunk].Code[f.PC]
}

func (m *Machine) isRunnable(thread int) bool {
	return !m.isOver() && !m.hasEnded(thread) && !m.isWaiting(thread)
}

// isWaiting reports whether a thread that has not ended waits for another one.
func (m *Machine) isWaiting(thread int) bool {
	switch i := m.next(thread); i.Op {
	case api.OpJoin:
		other, ok := m.threadOf(m.regs(thread)[i.D])
		return ok && other != thread && !m.hasEnded(other)
	case api.OpLock:
		v := m.regs(thread)[i.D]
		return v.Kind == api.VaRef && m.objects[v.N].Owner != -1 && m.objects[v.N].Owner != thread
	}
	return false
}

// threadOf returns the thread whose number a value is, and whether there is one.
func (m *Machine) threadOf(v api.Value) (thread int, ok bool) {
	if !isNumber(v) || v.N < 0 || v.N >= int64(len(m.threads)) {
		return 0, false
	}
	return int(v.N), true
}

// runnable appends the runnable threads to a list.
func (m *Machine) runnable(list []int) []int {
	for thread := range m.threads {
		if m.isRunnable(thread) {
			list = append(list, thread)
		}
	}
	return list
}

func (m *Machine) pick() (thread int, ok bool) {
	list := m.runnable(make([]int, 0, api.MaxThreads))
	switch n := m.outcome.Steps; {
	case len(list) == 0:
		return 0, false
	case n < len(m.given.Picks):
		return list[int(m.given.Picks[n])%len(list)], true
	case slices.Contains(list, m.last):
		return m.last, true
	}
	return list[0], true
}

// take lets a runnable thread take a step.
func (m *Machine) take(thread int) {
	i := m.next(thread)
	m.current(thread).PC++
	fault := effects()[i.Op](m, thread, i)
	if fault != api.FaNone {
		m.end(api.EnFault, thread, i)
		m.outcome.Fault = fault
	}
	m.outcome.Steps++
	m.last = thread
	m.settle()
}

// end ends the run by an instruction that a thread could not complete.
func (m *Machine) end(why api.End, thread int, i api.Instr) {
	m.current(thread).PC--
	m.outcome.End = why
	m.outcome.Line = i.Line
}

// settle ends the run if no thread can go on.
func (m *Machine) settle() {
	if !m.isOver() && len(m.runnable(make([]int, 0, api.MaxThreads))) == 0 {
		m.outcome.End = api.EnDeadlock
	}
}

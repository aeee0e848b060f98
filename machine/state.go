package machine

import (
	"slices"

	"sleuth/api"
)

// run is the state of a run: the fields of api.State, which the machine keeps to itself.
type run struct {
	threads []api.Thread
	objects []api.Object
	inputs  int
	clocks  int
	frames  int
	outcome api.Outcome
}

// runAt returns a run in a state, with memory of its own.
func runAt(s api.State) run {
	r := run{s.Threads, s.Objects, s.Inputs, s.Clocks, s.Frames, s.Outcome}
	return r.copied()
}

func (r run) state() api.State {
	c := r.copied()
	return api.State{Threads: c.threads, Objects: c.objects, Inputs: c.inputs, Clocks: c.clocks, Frames: c.frames, Outcome: c.outcome}
}

func (r run) copied() run {
	r.threads = slices.Clone(r.threads)
	for i, t := range r.threads {
		r.threads[i].Frames = copiedFrames(t.Frames)
	}
	r.objects = slices.Clone(r.objects)
	for i, o := range r.objects {
		r.objects[i].Cells = slices.Clone(o.Cells)
	}
	r.outcome.Out = slices.Clone(r.outcome.Out)
	return r
}

func copiedFrames(l []api.Frame) []api.Frame {
	l = slices.Clone(l)
	for i, f := range l {
		l[i].Regs = slices.Clone(f.Regs)
		l[i].Tries = slices.Clone(f.Tries)
	}
	return l
}

// Same reports whether two states are equal in all fields: P2.8.
func Same(a, b api.State) bool {
	return slices.EqualFunc(a.Threads, b.Threads, sameThread) && slices.EqualFunc(a.Objects, b.Objects, sameObject) &&
		a.Inputs == b.Inputs && a.Clocks == b.Clocks && a.Frames == b.Frames && sameOutcome(a.Outcome, b.Outcome)
}

func sameThread(a, b api.Thread) bool {
	return a.Result == b.Result && slices.EqualFunc(a.Frames, b.Frames, sameFrame)
}

func sameFrame(a, b api.Frame) bool {
	return a.ID == b.ID && a.Chunk == b.Chunk && a.PC == b.PC && slices.Equal(a.Regs, b.Regs) && slices.Equal(a.Tries, b.Tries)
}

func sameObject(a, b api.Object) bool {
	return a.Chunk == b.Chunk && a.Owner == b.Owner && slices.Equal(a.Cells, b.Cells)
}

func sameOutcome(a, b api.Outcome) bool {
	return a.End == b.End && a.Fault == b.Fault && a.Line == b.Line && a.Value == b.Value && a.Steps == b.Steps && slices.Equal(a.Out, b.Out)
}

// byteList is what has been written of a state.
type byteList []byte

func (b *byteList) put(n int64) {
	for shift := 0; shift < 64; shift += 8 {
		*b = append(*b, byte(n>>shift))
	}
}

func (b *byteList) counts(l ...int) {
	for _, n := range l {
		b.put(int64(n))
	}
}

func (b *byteList) value(v api.Value) {
	b.put(int64(v.Kind))
	b.put(v.N)
}

func (b *byteList) values(l []api.Value) {
	b.counts(len(l))
	for _, v := range l {
		b.value(v)
	}
}

func (b *byteList) frame(f api.Frame) {
	b.counts(f.ID, f.Chunk, f.PC)
	b.values(f.Regs)
	b.counts(len(f.Tries))
	for _, h := range f.Tries {
		b.counts(h.To, h.Reg)
	}
}

func (b *byteList) outcome(o api.Outcome) {
	b.counts(int(o.End), int(o.Fault), o.Line)
	b.value(o.Value)
	b.counts(len(o.Out))
	for _, n := range o.Out {
		b.put(n)
	}
	b.counts(o.Steps)
}

// Bytes returns the bytes of a state: P2.8.
func Bytes(s api.State) []byte {
	var b byteList
	b.counts(len(s.Threads))
	for _, t := range s.Threads {
		b.counts(len(t.Frames))
		for _, f := range t.Frames {
			b.frame(f)
		}
		b.value(t.Result)
	}
	b.counts(len(s.Objects))
	for _, o := range s.Objects {
		b.counts(o.Chunk)
		b.values(o.Cells)
		b.counts(o.Owner)
	}
	b.counts(s.Inputs, s.Clocks, s.Frames)
	b.outcome(s.Outcome)
	return b
}

// Sum returns the FNV-1a sum of the bytes of a state: P2.8.
func Sum(s api.State) uint64 {
	sum := uint64(14695981039346656037)
	for _, c := range Bytes(s) {
		sum = (sum ^ uint64(c)) * 1099511628211
	}
	return sum
}

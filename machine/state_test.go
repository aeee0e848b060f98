package machine_test

import (
	"bytes"
	"hash/fnv"
	"math"
	"slices"
	"testing"

	"sleuth/api"
	"sleuth/machine"
)

// full returns a state in which every field has something of its own; no run comes to it.
func full() api.State {
	return api.State{
		Threads: []api.Thread{
			{Frames: []api.Frame{
				{ID: 10, Chunk: 11, PC: 12, Regs: []api.Value{{Kind: 13, N: 14}, {Kind: 15, N: -16}}, Tries: []api.Handler{{To: 17, Reg: 18}, {To: 19, Reg: 20}}},
				{ID: 21, Chunk: 22, PC: 23, Regs: []api.Value{{Kind: 24, N: 25}}},
			}, Result: api.Value{Kind: 26, N: 27}},
			{Result: api.Value{Kind: 28, N: 29}},
		},
		Objects: []api.Object{{Chunk: -1, Cells: []api.Value{{Kind: 30, N: 31}, {Kind: 32, N: 33}}, Owner: 34}, {Chunk: 35, Owner: -1}},
		Inputs:  36, Clocks: 37, Frames: 38,
		Outcome: api.Outcome{End: 39, Fault: 40, Line: 41, Value: api.Value{Kind: 42, N: math.MinInt64}, Out: []int64{-43, math.MaxInt64}, Steps: 44},
	}
}

// words returns numbers of 8 bytes, the lowest first.
func words(l ...int64) []byte {
	var b []byte
	for _, n := range l {
		u := uint64(n)
		b = append(b, byte(u), byte(u>>8), byte(u>>16), byte(u>>24), byte(u>>32), byte(u>>40), byte(u>>48), byte(u>>56))
	}
	return b
}

// P2.8: the bytes of a state.
func TestBytes(t *testing.T) {
	want := words(2,
		2,
		10, 11, 12, 2, 13, 14, 15, -16, 2, 17, 18, 19, 20,
		21, 22, 23, 1, 24, 25, 0,
		26, 27,
		0, 28, 29,
		2, -1, 2, 30, 31, 32, 33, 34, 35, 0, -1,
		36, 37, 38,
		39, 40, 41, 42, math.MinInt64, 2, -43, math.MaxInt64, 44)
	if got := machine.Bytes(full()); !bytes.Equal(got, want) {
		t.Errorf("%v", got)
	}
	if got := machine.Bytes(api.State{}); !bytes.Equal(got, words(0, 0, 0, 0, 0, 0, 0, 0, 0, 0, 0, 0)) {
		t.Errorf("of the zero state: %v", got)
	}
	if got := words(-2, 258); !bytes.Equal(got, []byte{254, 255, 255, 255, 255, 255, 255, 255, 2, 1, 0, 0, 0, 0, 0, 0}) {
		t.Errorf("words: %v", got)
	}
}

// P2.8: the sum is that of the bytes.
func TestSum(t *testing.T) {
	for _, s := range []api.State{{}, full(), begun(t, racing, api.Given{}).State()} {
		h := fnv.New64a()
		h.Write(machine.Bytes(s))
		if got := machine.Sum(s); got != h.Sum64() {
			t.Errorf("%d of %+v", got, s)
		}
	}
}

// changes are ways to change each field of the full state, and the length of each of its lists.
var changes = []func(s *api.State){
	func(s *api.State) { s.Threads = s.Threads[:1] },
	func(s *api.State) { s.Threads = append(s.Threads, api.Thread{}) },
	func(s *api.State) { s.Threads[0], s.Threads[1] = s.Threads[1], s.Threads[0] },
	func(s *api.State) { s.Threads[0].Frames = s.Threads[0].Frames[:1] },
	func(s *api.State) { s.Threads[1].Frames = make([]api.Frame, 1) },
	func(s *api.State) { s.Threads[0].Frames[0].ID++ },
	func(s *api.State) { s.Threads[0].Frames[1].Chunk++ },
	func(s *api.State) { s.Threads[0].Frames[0].PC++ },
	func(s *api.State) { s.Threads[0].Frames[0].Regs = s.Threads[0].Frames[0].Regs[:1] },
	func(s *api.State) { s.Threads[0].Frames[1].Regs = nil },
	func(s *api.State) { s.Threads[0].Frames[0].Regs[1].Kind++ },
	func(s *api.State) { s.Threads[0].Frames[0].Regs[0].N++ },
	func(s *api.State) { s.Threads[0].Frames[0].Tries = s.Threads[0].Frames[0].Tries[:1] },
	func(s *api.State) { s.Threads[0].Frames[1].Tries = make([]api.Handler, 1) },
	func(s *api.State) { s.Threads[0].Frames[0].Tries[1].To++ },
	func(s *api.State) { s.Threads[0].Frames[0].Tries[0].Reg++ },
	func(s *api.State) { s.Threads[0].Result.Kind++ },
	func(s *api.State) { s.Threads[1].Result.N++ },
	func(s *api.State) { s.Objects = s.Objects[:1] },
	func(s *api.State) { s.Objects[0], s.Objects[1] = s.Objects[1], s.Objects[0] },
	func(s *api.State) { s.Objects[0].Chunk++ },
	func(s *api.State) { s.Objects[0].Cells = s.Objects[0].Cells[:1] },
	func(s *api.State) { s.Objects[1].Cells = make([]api.Value, 1) },
	func(s *api.State) { s.Objects[0].Cells[1].Kind++ },
	func(s *api.State) { s.Objects[0].Cells[0].N-- },
	func(s *api.State) { s.Objects[1].Owner++ },
	func(s *api.State) { s.Inputs++ },
	func(s *api.State) { s.Clocks-- },
	func(s *api.State) { s.Frames++ },
	func(s *api.State) { s.Outcome.End++ },
	func(s *api.State) { s.Outcome.Fault++ },
	func(s *api.State) { s.Outcome.Line = -1 },
	func(s *api.State) { s.Outcome.Value.Kind = 0 },
	func(s *api.State) { s.Outcome.Value.N = math.MaxInt64 },
	func(s *api.State) { s.Outcome.Out = s.Outcome.Out[1:] },
	func(s *api.State) { s.Outcome.Out = nil },
	func(s *api.State) { s.Outcome.Out[1]++ },
	func(s *api.State) { s.Outcome.Steps = 0 },
}

// P2.8, P2.9: states are equal if all fields are, and so are their bytes.
func TestSame(t *testing.T) {
	if !machine.Same(full(), full()) || !machine.Same(api.State{}, api.State{}) || machine.Same(full(), api.State{}) {
		t.Error("equal states are unequal")
	}
	for i, change := range changes {
		s := full()
		change(&s)
		if machine.Same(s, full()) || machine.Same(full(), s) {
			t.Errorf("change %d makes no difference", i)
		}
		if bytes.Equal(machine.Bytes(s), machine.Bytes(full())) || machine.Sum(s) == machine.Sum(full()) {
			t.Errorf("change %d makes no difference to the bytes", i)
		}
	}
}

// R3: nil and empty lists are the same.
func TestSameEmpty(t *testing.T) {
	a := api.State{Threads: []api.Thread{{}, {Frames: make([]api.Frame, 1)}}, Objects: make([]api.Object, 1)}
	b := api.State{Threads: []api.Thread{{Frames: []api.Frame{}}, {Frames: []api.Frame{{Regs: []api.Value{}, Tries: []api.Handler{}}}}},
		Objects: []api.Object{{Cells: []api.Value{}}}, Outcome: api.Outcome{Out: []int64{}}}
	if !machine.Same(a, b) || !bytes.Equal(machine.Bytes(a), machine.Bytes(b)) {
		t.Error("unequal")
	}
	if !machine.Same(api.State{Threads: []api.Thread{}, Objects: []api.Object{}}, api.State{}) {
		t.Error("unequal")
	}
}

// R4: Same, Bytes and Sum change nothing, and Bytes returns new memory.
func TestBytesApart(t *testing.T) {
	s := full()
	b := machine.Bytes(s)
	want := slices.Clone(b)
	clear(b[:cap(b)])
	machine.Sum(s)
	machine.Same(s, full())
	if !bytes.Equal(machine.Bytes(s), want) || !machine.Same(s, full()) {
		t.Error("changed")
	}
}

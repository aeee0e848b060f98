package learn_test

import (
	"fmt"
	"math/rand"
	"slices"
	"testing"

	"sleuth/api"
	"sleuth/learn"
	"sleuth/record"
)

// copied returns a state that shares no memory with another one.
func copied(s api.State) api.State {
	out := s
	out.Threads, out.Objects, out.Outcome.Out = nil, nil, slices.Clone(s.Outcome.Out)
	for _, x := range s.Threads {
		y := api.Thread{Result: x.Result}
		for _, f := range x.Frames {
			y.Frames = append(y.Frames, api.Frame{ID: f.ID, Chunk: f.Chunk, PC: f.PC, Regs: slices.Clone(f.Regs), Tries: slices.Clone(f.Tries)})
		}
		out.Threads = append(out.Threads, y)
	}
	for _, o := range s.Objects {
		out.Objects = append(out.Objects, api.Object{Chunk: o.Chunk, Cells: slices.Clone(o.Cells), Owner: o.Owner})
	}
	return out
}

// sample is a state with two threads that go on, one that has ended, handlers, and three objects.
func sample() api.State {
	return api.State{
		Threads: []api.Thread{
			{Frames: []api.Frame{
				{ID: 0, Chunk: 1, PC: 4, Regs: []api.Value{num(1), num(2)}, Tries: []api.Handler{{To: 9, Reg: 1}, {To: 7, Reg: 0}}},
				{ID: 3, Chunk: 0, PC: 2, Regs: []api.Value{num(5), ref(0), num(7)}},
			}},
			{Result: num(8)},
			{Frames: []api.Frame{{ID: 2, Chunk: 0, PC: 1, Regs: []api.Value{num(0), num(4), ref(1)}}}},
		},
		Objects: []api.Object{{Chunk: -1, Cells: []api.Value{num(1), num(3)}, Owner: -1}, {Chunk: -1, Owner: 2}, {Chunk: 2, Cells: []api.Value{ref(1)}, Owner: -1}},
		Inputs:  1, Clocks: 2, Frames: 5, Outcome: api.Outcome{Out: []int64{6, 6}, Steps: 20},
	}
}

// P8.4: which parts of two states have to be the same, and which not.
func TestShape(t *testing.T) {
	for what, change := range map[string]func(s *api.State){
		"a thread more":      func(s *api.State) { s.Threads = append(s.Threads, api.Thread{}) },
		"a thread less":      func(s *api.State) { s.Threads = s.Threads[:2] },
		"a frame more":       func(s *api.State) { s.Threads[2].Frames = append(s.Threads[2].Frames, api.Frame{ID: 4}) },
		"a frame less":       func(s *api.State) { s.Threads[0].Frames = s.Threads[0].Frames[:1] },
		"no frame":           func(s *api.State) { s.Threads[2].Frames = nil },
		"an ID":              func(s *api.State) { s.Threads[0].Frames[1].ID = 4 },
		"a chunk":            func(s *api.State) { s.Threads[2].Frames[0].Chunk = 1 },
		"a PC":               func(s *api.State) { s.Threads[0].Frames[0].PC++ },
		"a register more":    func(s *api.State) { f := &s.Threads[0].Frames[0]; f.Regs = append(f.Regs, num(0)) },
		"a handler more":     func(s *api.State) { f := &s.Threads[2].Frames[0]; f.Tries = append(f.Tries, api.Handler{}) },
		"a handler less":     func(s *api.State) { f := &s.Threads[0].Frames[0]; f.Tries = f.Tries[:1] },
		"another handler":    func(s *api.State) { s.Threads[0].Frames[0].Tries[1].Reg = 1 },
		"a handler's place":  func(s *api.State) { s.Threads[0].Frames[0].Tries[0].To = 8 },
		"a result":           func(s *api.State) { s.Threads[1].Result.N = 9 },
		"a result's kind":    func(s *api.State) { s.Threads[1].Result.Kind = api.VaRef },
		"an object more":     func(s *api.State) { s.Objects = append(s.Objects, api.Object{Chunk: -1, Owner: -1}) },
		"an object less":     func(s *api.State) { s.Objects = s.Objects[:2] },
		"an object's chunk":  func(s *api.State) { s.Objects[2].Chunk = 3 },
		"cells to a closure": func(s *api.State) { s.Objects[0].Chunk = 2 },
		"an owner":           func(s *api.State) { s.Objects[1].Owner = -1 },
		"a cell more":        func(s *api.State) { s.Objects[1].Cells = []api.Value{num(0)} },
		"a cell less":        func(s *api.State) { s.Objects[2].Cells = nil },
		"how many frames":    func(s *api.State) { s.Frames = 6 },
		"a deadlock":         func(s *api.State) { s.Outcome.End = api.EnDeadlock },
		"an end":             func(s *api.State) { s.Outcome.End = api.EnDone },
		"no fuel":            func(s *api.State) { s.Outcome.End = api.EnFuel },
		"an end of no kind":  func(s *api.State) { s.Outcome.End = 99 },
	} {
		a, b := sample(), sample()
		change(&b)
		for range 2 {
			l, ok := learn.Differences(a, b)
			if learn.Shape(a, b) || ok || l != nil {
				t.Errorf("%s: alike in shape, %v", what, l)
			}
			if s, e := learn.Mix(a, b, nil); e != api.ErrState || fmt.Sprint(s) != fmt.Sprint(api.State{}) {
				t.Errorf("%s: Mix: %v, error %d", what, s, e)
			}
			a, b = b, a
		}
		if learn.Shape(b, b) != (b.Outcome.End == api.EnNone) {
			t.Errorf("%s: with itself", what)
		}
	}
	for what, change := range map[string]func(s *api.State){
		"nothing":                       func(s *api.State) {},
		"what was read":                 func(s *api.State) { s.Inputs, s.Clocks = 7, 0 },
		"the output":                    func(s *api.State) { s.Outcome.Out, s.Outcome.Steps = nil, 4 },
		"other parts of the outcome":    func(s *api.State) { s.Outcome.Line, s.Outcome.Fault, s.Outcome.Value = 3, api.FaZero, num(4) },
		"the result of one with frames": func(s *api.State) { s.Threads[0].Result = num(5) },
		"empty lists":                   func(s *api.State) { s.Threads[2].Frames[0].Tries, s.Objects[1].Cells = []api.Handler{}, []api.Value{} },
	} {
		a, b := sample(), sample()
		change(&b)
		l, ok := learn.Differences(a, b)
		if !learn.Shape(a, b) || !learn.Shape(b, a) || !ok || len(l) > 0 {
			t.Errorf("%s: not alike, or %v", what, l)
		}
		if s, e := learn.Mix(a, b, nil); e != api.OK || fmt.Sprint(s) != fmt.Sprint(a) {
			t.Errorf("%s: %v, error %d", what, s, e)
		}
	}
	if !learn.Shape(api.State{}, api.State{}) {
		t.Error("the empty states")
	}
}

// P8.4: the differences, and their order.
func TestDifferences(t *testing.T) {
	a, b := sample(), sample()
	for i := range b.Threads {
		for j := range b.Threads[i].Frames {
			for r := range b.Threads[i].Frames[j].Regs {
				b.Threads[i].Frames[j].Regs[r] = num(-1)
			}
		}
	}
	for i := range b.Objects {
		for c := range b.Objects[i].Cells {
			b.Objects[i].Cells[c] = num(-1)
		}
	}
	want := []api.Place{reg(0, 0), reg(0, 1), reg(3, 0), reg(3, 1), reg(3, 2), reg(2, 0), reg(2, 1), reg(2, 2), cellOf(0, 0), cellOf(0, 1), cellOf(2, 0)}
	if l, ok := learn.Differences(a, b); !ok || !slices.Equal(l, want) {
		t.Error(l, ok)
	}
	b = sample()
	b.Threads[0].Frames[1].Regs[1] = num(0) // another kind only
	b.Threads[2].Frames[0].Regs[1] = num(5)
	b.Objects[0].Cells[1] = num(2)
	want = []api.Place{reg(3, 1), reg(2, 1), cellOf(0, 1)}
	if l, ok := learn.Differences(a, b); !ok || !slices.Equal(l, want) {
		t.Error(l, ok)
	}
	if l, ok := learn.Differences(b, a); !ok || !slices.Equal(l, want) {
		t.Error(l, ok)
	}
}

// P8.4: Mix takes the values of the other state at some of the differences, and nothing else.
func TestMix(t *testing.T) {
	a, b := sample(), sample()
	b.Threads[0].Frames[1].Regs[1] = num(0)
	b.Threads[2].Frames[0].Regs[1] = num(5)
	b.Objects[0].Cells[1] = num(2)
	b.Outcome.Out, b.Inputs = nil, 9
	for _, x := range []struct {
		at   []api.Place
		want func(s *api.State)
	}{
		{nil, func(*api.State) {}},
		{[]api.Place{reg(3, 1)}, func(s *api.State) { s.Threads[0].Frames[1].Regs[1] = num(0) }},
		{[]api.Place{cellOf(0, 1), reg(2, 1)}, func(s *api.State) { s.Threads[2].Frames[0].Regs[1], s.Objects[0].Cells[1] = num(5), num(2) }},
		{[]api.Place{cellOf(0, 1), cellOf(0, 1)}, func(s *api.State) { s.Objects[0].Cells[1] = num(2) }},
	} {
		want := sample()
		x.want(&want)
		if s, e := learn.Mix(a, b, x.at); e != api.OK || fmt.Sprint(s) != fmt.Sprint(want) {
			t.Errorf("%v: %v, error %d, not %v", x.at, s, e, want)
		}
	}
	for _, q := range []api.Place{reg(3, 0), reg(0, 0), reg(1, 1), reg(3, 9), reg(-1, 1), cellOf(0, 0), cellOf(3, 1), cellOf(2, 1), {}, {Kind: api.PlLen, A: 3, B: 1}, {Kind: api.PlCell, A: 1 << 62, B: least}, {Kind: 77, A: 3, B: 1}} {
		if s, e := learn.Mix(a, b, []api.Place{reg(3, 1), q}); e != api.ErrNone || fmt.Sprint(s) != fmt.Sprint(api.State{}) {
			t.Errorf("%v: %v, error %d", q, s, e)
		}
	}
	b.Frames++
	if s, e := learn.Mix(a, b, []api.Place{reg(0, 0)}); e != api.ErrState || fmt.Sprint(s) != fmt.Sprint(api.State{}) {
		t.Errorf("%v, error %d", s, e)
	}
}

// P8.4: of frames with the same ID, each that has the register among its differences is meant.
func TestMixSameIDs(t *testing.T) {
	a, b := sample(), sample()
	for _, s := range []*api.State{&a, &b} {
		s.Threads[0].Frames[0].ID, s.Threads[0].Frames[1].ID = 2, 2
	}
	b.Threads[0].Frames[0].Regs[1] = num(11)
	b.Threads[0].Frames[1].Regs[2] = num(13)
	b.Threads[2].Frames[0].Regs[1] = num(12)
	if l, ok := learn.Differences(a, b); !ok || !slices.Equal(l, []api.Place{reg(2, 1), reg(2, 2), reg(2, 1)}) {
		t.Error(l, ok)
	}
	want := copied(a)
	want.Threads[0].Frames[0].Regs[1], want.Threads[2].Frames[0].Regs[1] = num(11), num(12)
	if s, e := learn.Mix(a, b, []api.Place{reg(2, 1)}); e != api.OK || fmt.Sprint(s) != fmt.Sprint(want) {
		t.Error(s, e)
	}
	want = copied(a)
	want.Threads[0].Frames[1].Regs[2] = num(13)
	if s, e := learn.Mix(a, b, []api.Place{reg(2, 2)}); e != api.OK || fmt.Sprint(s) != fmt.Sprint(want) {
		t.Error(s, e)
	}
}

// mixed puts values of one state into another one, place by place.
func mixed(a, b api.State, at []api.Place) api.State {
	out := copied(a)
	for _, q := range at {
		if q.Kind == api.PlCell {
			out.Objects[q.A].Cells[q.B] = b.Objects[q.A].Cells[q.B]
			continue
		}
		for i, x := range out.Threads {
			for j, f := range x.Frames {
				if f.ID == q.A && q.B < len(f.Regs) {
					f.Regs[q.B] = b.Threads[i].Frames[j].Regs[q.B]
				}
			}
		}
	}
	return out
}

// P8.4: the states of random runs that differ in what they are given: mixed by all of their differences, they have the other one's values; mixed by none, their own.
func TestStatesOfRuns(t *testing.T) {
	alike, many := 0, 0
	programs(t, 120, func(m *maker, p api.Program) {
		g := m.given()
		h := g
		h.Inputs = m.given().Inputs
		x, y := recorded(t, p, g, 300), recorded(t, p, h, 300)
		r, _ := record.Open(p, x, 1)
		s, _ := record.Open(p, y, 1)
		for range 20 {
			n := m.Intn(min(x.Steps, y.Steps) + 1)
			r.Goto(n)
			s.Goto(n)
			a, b := r.State(), s.State()
			l, ok := learn.Differences(a, b)
			if ok != learn.Shape(a, b) {
				t.Fatal("Shape and Differences say different things")
			}
			if !ok {
				continue
			}
			alike++
			many += min(len(l), 2) / 2
			some := slices.DeleteFunc(slices.Clone(l), func(api.Place) bool { return m.Intn(2) == 0 })
			for _, at := range [][]api.Place{l, nil, some} {
				if got, e := learn.Mix(a, b, at); e != api.OK || fmt.Sprint(got) != fmt.Sprint(mixed(a, b, at)) {
					t.Fatalf("Mix by %v: %v, error %d", at, got, e)
				}
			}
			all, _ := learn.Mix(a, b, l)
			if rest, ok := learn.Differences(all, b); !ok || len(rest) > 0 {
				t.Fatalf("with all differences mixed in: %v, %v", rest, ok)
			}
		}
	})
	if alike < 500 || many < 200 {
		t.Error(alike, many)
	}
}

// P8.4, P0.1: Shape, Differences and Mix accept all states.
func TestAnyStates(t *testing.T) {
	r := rand.New(rand.NewSource(7))
	odd := func() int { return []int{0, 0, 0, 1, 2, -1, least, 1<<63 - 1}[r.Intn(8)] }
	values := func() []api.Value {
		var l []api.Value
		for range r.Intn(3) {
			l = append(l, api.Value{Kind: api.ValueKind(r.Intn(4)), N: int64(r.Intn(2))})
		}
		return l
	}
	state := func() api.State {
		s := api.State{Inputs: odd(), Clocks: odd(), Frames: r.Intn(2), Outcome: api.Outcome{End: api.End(r.Intn(9) / 8), Line: odd(), Steps: odd()}}
		for range r.Intn(3) {
			x := api.Thread{Result: num(int64(r.Intn(2)))}
			for range r.Intn(3) {
				x.Frames = append(x.Frames, api.Frame{ID: odd(), Chunk: odd(), PC: r.Intn(2), Regs: values()})
			}
			s.Threads = append(s.Threads, x)
		}
		for range r.Intn(2) {
			s.Objects = append(s.Objects, api.Object{Chunk: odd(), Cells: values(), Owner: r.Intn(2)})
		}
		return s
	}
	alike := 0
	for range 60000 {
		a, b := state(), state()
		if r.Intn(2) == 0 {
			b = copied(a)
			for _, x := range b.Threads {
				for _, f := range x.Frames {
					for i := range f.Regs {
						f.Regs[i].N = int64(r.Intn(2))
					}
				}
			}
		}
		l, ok := learn.Differences(a, b)
		if ok != learn.Shape(a, b) || !ok && l != nil {
			t.Fatal(a, b, l, ok)
		}
		at := append(slices.Clone(l), api.Place{Kind: api.PlaceKind(r.Intn(4)), A: odd(), B: odd()})[:r.Intn(len(l)+2)]
		s, e := learn.Mix(a, b, at)
		switch {
		case !ok && e != api.ErrState, ok && slices.ContainsFunc(at, func(q api.Place) bool { return !slices.Contains(l, q) }) != (e == api.ErrNone):
			t.Fatal(a, b, at, e)
		case e == api.OK && fmt.Sprint(s) != fmt.Sprint(mixed(a, b, at)):
			t.Fatal(a, b, at, s)
		}
		if ok {
			alike++
		}
	}
	if alike < 2000 {
		t.Error(alike)
	}
}

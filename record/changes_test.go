package record_test

import (
	"fmt"
	"math/rand"
	"slices"
	"strings"
	"testing"

	"sleuth/api"
)

// shown returns writes as text: the kind of the place, its A and, of registers and cells, its B, and the value (@ a reference, & a closure).
func shown(l []api.Write) string {
	var words []string
	for _, w := range l {
		place := fmt.Sprint([]string{"none", "r", "c", "len", "lock", "thread", "out", "given"}[w.Place.Kind], w.Place.A)
		if w.Place.Kind == api.PlReg || w.Place.Kind == api.PlCell {
			place += fmt.Sprint(".", w.Place.B)
		} else if w.Place.B != 0 {
			place += fmt.Sprint(" with B ", w.Place.B)
		}
		words = append(words, fmt.Sprint(place, "=", []string{"", "@", "&"}[w.Value.Kind], w.Value.N))
	}
	return strings.Join(words, " ")
}

// changesAre checks what the steps of a log change: a text for each.
func changesAre(t *testing.T, text string, g api.Given, picks string, want ...string) {
	t.Helper()
	p := parsed(t, text)
	l, _ := followed(t, p, g, turns(picks), len(want))
	if l.Steps != len(want) {
		t.Fatalf("%s: %d steps, not %d", text, l.Steps, len(want))
	}
	h := replayed(t, p, l)
	for _, every := range []int{1, 3, api.MaxSteps} {
		r := opened(t, p, l, every)
		at := l.Steps / 2
		r.Goto(at)
		for n, s := range want {
			if list, e := r.Changes(n); e != api.OK || shown(list) != s {
				t.Errorf("%s, every %d: step %d: error %d, %q, not %q", text, every, n, e, shown(list), s)
			}
			stands(t, r, h, at)
		}
	}
}

// P3.11: registers, and what is printed.
func TestChanges(t *testing.T) {
	changesAre(t, one, inputs(5), "", "r0.1=5", "r0.0=5", "", "out0=5", "r0.1=0", "")
	changesAre(t, "fun main() { print 7; print 0; print -2; }", api.Given{}, "",
		"r0.0=7", "out0=7", "r0.0=0", "out1=0", "r0.0=2", "r0.0=-2", "out2=-2", "r0.0=0", "")
	// a register that gets the value it has
	changesAre(t, "fun main() { let x = 3; x = x; x = 0; x = clock; }", api.Given{Clocks: []int64{0}}, "",
		"r0.1=3", "r0.0=3", "", "", "r0.1=0", "r0.0=0", "", "", "", "")
	// values of other kinds
	changesAre(t, "fun main() { let o = new(0); o = 0; o = fn () { }; }", api.Given{}, "",
		"", "r0.1=@0 len0=0", "r0.0=@0", "r0.1=0", "r0.0=0", "r0.1=&1 len1=0", "r0.0=&1", "r0.1=0", "")
}

// P3.11: cells, locks and new objects.
func TestChangesObjects(t *testing.T) {
	changesAre(t, "fun main() { let o = new(2); lock o; o[1] = 7; o[1] = 7; unlock o; print o[1]; }", api.Given{}, "",
		"r0.1=2", "r0.1=@0 len0=2 c0.0=0 c0.1=0", "r0.0=@0", "", "lock0=0",
		"", "r0.2=1", "r0.3=7", "c0.1=7", "", "", "", "", "",
		"lock0=-1", "", "", "r0.1=7", "out0=7", "r0.1=0", "")
	changesAre(t, "fun main() { let a = 4; let k = new(1); let g = fn (b) { return a + b + k; }; }", api.Given{}, "",
		"r0.3=4", "r0.0=4", "r0.3=1", "r0.3=@0 len0=1 c0.0=0", "r0.1=@0", "r0.3=4", "r0.4=@0", "r0.3=&1 len1=2 c1.0=4 c1.1=@0", "r0.2=&1", "r0.3=0", "")
	// an object that is a cell of another, and of itself
	changesAre(t, "fun main() { let o = new(2); o[1] = o; o[0] = new(1); }", api.Given{}, "",
		"r0.1=2", "r0.1=@0 len0=2 c0.0=0 c0.1=0", "r0.0=@0", "", "r0.2=1", "r0.3=@0", "c0.1=@0",
		"", "r0.2=0", "r0.3=1", "r0.3=@1 len1=1 c1.0=0", "c0.0=@1", "r0.1=0", "")
}

// P3.11: frames that begin and end.
func TestChangesFrames(t *testing.T) {
	changesAre(t, "fun f(a, b) { return a + b; } fun main() { f(3, 4); f(3, 4); }", api.Given{}, "",
		"r0.0=3", "r0.1=4", "r1.0=3 r1.1=4 r1.2=0 r1.3=0", "r1.2=3", "r1.3=4", "r1.2=7", "r0.0=7",
		"r0.0=3", "", "r2.0=3 r2.1=4 r2.2=0 r2.3=0", "r2.2=3", "r2.3=4", "r2.2=7", "r0.0=7", "r0.0=0", "")
	// what is thrown through a frame
	changesAre(t, "fun f() { throw 7; } fun main() { try { f(); } catch x { print x; } }", api.Given{}, "",
		"", "r1.0=0", "r1.0=7", "r0.0=7", "r0.1=7", "out0=7", "r0.1=0", "")
	// a closure that is applied
	changesAre(t, "fun main() { let a = 2; let g = fn (b) { return b; a; }; g.(9); }", api.Given{}, "",
		"r0.2=2", "r0.0=2", "", "r0.2=&0 len0=1 c0.0=2", "r0.1=&0", "", "r0.3=9", "r1.0=9 r1.1=2 r1.2=0", "r1.2=9", "r0.2=9", "r0.2=0", "")
	// what nothing catches, and what is no value: nothing is other
	changesAre(t, "fun main() { throw 0; }", api.Given{}, "", "", "")
	changesAre(t, "fun main() { print 1 / 0; }", api.Given{}, "", "r0.0=1", "", "")
	changesAre(t, "fun main() { assert 0; }", api.Given{}, "", "", "")
	changesAre(t, "fun main() { while 1 { } }", api.Given{}, "", "r0.0=1", "", "", "", "", "")
}

// P3.11: threads.
func TestChangesThreads(t *testing.T) {
	text := "fun f(o) { lock o; o[0] = 8; unlock o; return 6; } fun main() { let o = new(1); let t = spawn f(o); let x = 5; join t; }"
	changesAre(t, text, api.Given{}, "0*6 1*2 0*1 1*4 0*1 1*9",
		"r0.3=1", "r0.3=@0 len0=1 c0.0=0", "r0.0=@0", "", "r0.3=1 r1.0=@0 r1.1=0 r1.2=0 r1.3=0", "r0.1=1",
		"r1.1=@0", "lock0=1", "r0.3=5", "", "", "r1.3=8", "c0.0=8", "r0.2=5",
		"", "lock0=-1", "r1.1=6", "", "r0.3=1", "", "r0.3=0", "")
	// frames of a lower thread with higher numbers
	text = "fun f(n) { while n { } } fun g(n) { return n; } fun main() { spawn f(2); g(3); g(4); }"
	changesAre(t, text, api.Given{}, "0*4 1*1 0*3 1*1 0*2",
		"r0.0=2", "r0.0=1 r1.0=2 r1.1=0", "r0.0=3", "r2.0=3 r2.1=0",
		"r1.1=2", "r2.1=3", "", "r0.0=4", "", "r3.0=4 r3.1=0", "r3.1=4")
}

// P3.11: steps that there are not.
func TestChangesErrors(t *testing.T) {
	p, l, h := sometime(t)
	r := opened(t, p, l, 8)
	r.Goto(5)
	for _, n := range []int{-1, l.Steps, l.Steps + 1, -1 << 63, 1<<63 - 1} {
		if list, e := r.Changes(n); e != api.ErrNone || len(list) != 0 {
			t.Errorf("%d: error %d, %v", n, e, list)
		}
	}
	for _, n := range []int{0, l.Steps - 1} {
		if _, e := r.Changes(n); e != api.OK {
			t.Errorf("%d: error %d", n, e)
		}
	}
	stands(t, r, h, 5)
}

// held is what the places of a state hold.
func held(s api.State) map[api.Place]api.Value {
	m := map[api.Place]api.Value{}
	for _, t := range s.Threads {
		for _, f := range t.Frames {
			for b, v := range f.Regs {
				m[api.Place{Kind: api.PlReg, A: f.ID, B: b}] = v
			}
		}
	}
	for a, o := range s.Objects {
		m[api.Place{Kind: api.PlLen, A: a}] = api.Value{N: int64(len(o.Cells))}
		m[api.Place{Kind: api.PlLock, A: a}] = api.Value{N: int64(o.Owner)}
		for b, v := range o.Cells {
			m[api.Place{Kind: api.PlCell, A: a, B: b}] = v
		}
	}
	for a, n := range s.Outcome.Out {
		m[api.Place{Kind: api.PlOut, A: a}] = api.Value{N: n}
	}
	return m
}

// others returns how many places hold something other than before, but for the locks of new objects; a place that ends is none.
func others(before, after map[api.Place]api.Value) int {
	n := 0
	for place, v := range after {
		old, was := before[place]
		if was && old != v || !was && place.Kind != api.PlLock {
			n++
		}
	}
	return n
}

// rank returns in which part of the order a write stands.
func rank(before map[api.Place]api.Value, w api.Write) int {
	switch w.Place.Kind {
	case api.PlReg:
		if _, old := before[api.Place{Kind: api.PlReg, A: w.Place.A}]; old {
			return 0
		}
		return 3
	case api.PlOut:
		return 4
	case api.PlCell, api.PlLock, api.PlLen:
		if _, old := before[api.Place{Kind: api.PlLen, A: w.Place.A}]; old {
			return 1
		}
		return 2
	}
	return 9
}

// P3.11: in random logs, just what is other is told, in the order of the promise.
func TestChangesRandom(t *testing.T) {
	seen := map[api.PlaceKind]int{}
	runs(t, 12, func(r *rand.Rand, p api.Program, _ api.Given, h history) {
		x := opened(t, p, h.log(h.end()), 1+r.Intn(40))
		for n := range h.end() {
			before, after := held(h.states[n]), held(h.states[n+1])
			list, e := x.Changes(n)
			if e != api.OK || len(list) != others(before, after) {
				t.Fatalf("step %d: error %d, %s", n, e, shown(list))
			}
			for _, w := range list {
				seen[w.Place.Kind]++
				if v, ok := after[w.Place]; !ok || v != w.Value {
					t.Errorf("step %d: %s", n, shown(list))
				}
			}
			if !slices.IsSortedFunc(list, func(a, b api.Write) int { return placed(before, a, b) }) {
				t.Errorf("step %d: in another order: %s", n, shown(list))
			}
		}
	})
	for _, k := range []api.PlaceKind{api.PlReg, api.PlCell, api.PlLen, api.PlLock, api.PlOut} {
		if seen[k] < 50 {
			t.Errorf("only %d places of the kind %d", seen[k], k)
		}
	}
}

// placed compares where two writes stand: by the part, the number, and the place in it (of an object the length first, and the lock last).
func placed(before map[api.Place]api.Value, a, b api.Write) int {
	within := func(w api.Write) int {
		switch w.Place.Kind {
		case api.PlLen:
			return -1
		case api.PlLock:
			return api.MaxCells
		}
		return w.Place.B
	}
	return slices.Compare([]int{rank(before, a), a.Place.A, within(a)}, []int{rank(before, b), b.Place.A, within(b)})
}

// R4: Changes returns new memory each time.
func TestChangesApart(t *testing.T) {
	p, l, _ := sometime(t)
	r := opened(t, p, l, 4)
	for n := range l.Steps {
		list, _ := r.Changes(n)
		want := shown(list)
		clear(list[:cap(list)])
		if again, _ := r.Changes(n); shown(again) != want {
			t.Errorf("step %d: %s, not %s", n, shown(again), want)
		}
	}
}

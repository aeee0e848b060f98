package record_test

import (
	"fmt"
	"math/rand"
	"slices"
	"strings"
	"testing"

	"sleuth/api"
	"sleuth/lang"
	"sleuth/machine"
	"sleuth/record"
)

// parsed returns the program with a text.
func parsed(t *testing.T, text string) api.Program {
	t.Helper()
	p, at, e := lang.Parse(text)
	if e != api.OK {
		t.Fatalf("Parse(%q): error %d at %d", text, e, at)
	}
	return p
}

// recorded returns the log and the outcome of a run, which Record must return without an error.
func recorded(t *testing.T, p api.Program, g api.Given, fuel int) (api.Log, api.Outcome) {
	t.Helper()
	l, o, e := record.Record(p, g, fuel)
	if e != api.OK {
		t.Fatalf("Record: error %d", e)
	}
	return l, o
}

// followed returns the log and the outcome that Follow must return without an error.
func followed(t *testing.T, p api.Program, g api.Given, picks []api.Pick, fuel int) (api.Log, api.Outcome) {
	t.Helper()
	l, o, e := record.Follow(p, g, picks, fuel)
	if e != api.OK {
		t.Fatalf("Follow: error %d", e)
	}
	return l, o
}

// opened returns a player of a log.
func opened(t *testing.T, p api.Program, l api.Log, every int) *record.Player {
	t.Helper()
	r, e := record.Open(p, l, every)
	if e != api.OK || r == nil {
		t.Fatalf("Open with every %d: error %d", every, e)
	}
	return r
}

func inputs(l ...int64) api.Given { return api.Given{Inputs: l} }

func sameLog(a, b api.Log) bool {
	return slices.Equal(a.Picks, b.Picks) && slices.Equal(a.Inputs, b.Inputs) && slices.Equal(a.Clocks, b.Clocks) && a.Steps == b.Steps && a.Sum == b.Sum
}

func isEmptyLog(l api.Log) bool { return sameLog(l, api.Log{}) }

func sameOutcome(a, b api.Outcome) bool {
	return a.End == b.End && a.Fault == b.Fault && a.Line == b.Line && a.Value == b.Value && a.Steps == b.Steps && slices.Equal(a.Out, b.Out)
}

// order returns picks as text: for each the thread, and how many steps it takes.
func order(picks []api.Pick) string {
	var l []string
	for _, x := range picks {
		l = append(l, fmt.Sprintf("%d*%d", x.Thread, x.Count))
	}
	return strings.Join(l, " ")
}

// turns returns the picks with a text as order writes it.
func turns(text string) []api.Pick {
	var picks []api.Pick
	for _, s := range strings.Fields(text) {
		var x api.Pick
		if _, e := fmt.Sscanf(s, "%d*%d", &x.Thread, &x.Count); e != nil {
			panic(e)
		}
		picks = append(picks, x)
	}
	return picks
}

// history is a run: its states, and the threads that took the steps between them.
type history struct {
	given   api.Given
	states  []api.State
	threads []int
}

// log returns the log of the first n steps of a history.
func (h history) log(n int) api.Log {
	s := h.states[n]
	l := api.Log{Inputs: h.given.Inputs[:s.Inputs], Clocks: h.given.Clocks[:s.Clocks], Steps: n, Sum: machine.Sum(s)}
	for i, thread := range h.threads[:n] {
		if i == 0 || h.threads[i-1] != thread {
			l.Picks = append(l.Picks, api.Pick{Thread: thread})
		}
		l.Picks[len(l.Picks)-1].Count++
	}
	return l
}

// outcome returns what the run comes to if it is left at state n.
func (h history) outcome(n int) api.Outcome {
	o := h.states[n].Outcome
	if o.End == api.EnNone {
		o.End = api.EnFuel
	}
	return o
}

// end returns the number of steps.
func (h history) end() int { return len(h.threads) }

// scheduled returns the run that the machine's scheduler makes of what is given.
func scheduled(t *testing.T, p api.Program, g api.Given, fuel int) history {
	t.Helper()
	m, e := machine.New(p, g)
	if e != api.OK {
		t.Fatalf("New: error %d", e)
	}
	h := history{g, []api.State{m.State()}, nil}
	for range fuel {
		thread, ok := m.Step()
		if !ok {
			break
		}
		h.threads = append(h.threads, thread)
		h.states = append(h.states, m.State())
	}
	return h
}

// replayed returns the run of a log.
func replayed(t *testing.T, p api.Program, l api.Log) history {
	t.Helper()
	g := api.Given{Inputs: l.Inputs, Clocks: l.Clocks}
	m, e := machine.New(p, g)
	if e != api.OK {
		t.Fatalf("New: error %d", e)
	}
	h := history{g, []api.State{m.State()}, nil}
	for _, x := range l.Picks {
		for range x.Count {
			if e := m.StepOf(x.Thread); e != api.OK {
				t.Fatalf("step %d of thread %d: error %d", len(h.threads), x.Thread, e)
			}
			h.threads = append(h.threads, x.Thread)
			h.states = append(h.states, m.State())
		}
	}
	return h
}

// one is the program of the chapter's examples.
const one = "fun main() { let x = input; print x; }"

// racing is a program whose threads 1 and 2 print without an end, beside thread 0, which does so too.
const racing = "fun f(n) { while 1 { print n; } } fun main() { spawn f(1); spawn f(2); while 1 { print 0; } }"

// texts returns programs whose runs end in all ways, and whose steps are of all operations.
func texts() []string {
	return []string{
		one,
		racing,
		"fun main() { }",
		"fun f(o) { o[0] = o[0] + input; } fun main() { let o = new(1); let a = spawn f(o); let b = spawn f(o); join a; join b; print o[0]; }",
		// waits, and clock values beside inputs
		`fun f(o, n) { let i = n; while i > 0 { lock o; o[0] = o[0] + clock; print input; unlock o; i = i - 1; } return o; }
		fun main() { let o = new(2); let a = spawn f(o, 2); let b = spawn f(o, 3); lock o; o[1] = len(o); unlock o; join b; join a; print o[0]; }`,
		// a deadlock, where the threads take turns
		`fun f(a, b) { lock a; print 1; lock b; unlock b; unlock a; }
		fun main() { let a = new(0); let b = new(0); let t = spawn f(a, b); let u = spawn f(b, a); join t; join u; }`,
		// closures, and what is thrown through frames
		`fun f(n) { if n { try { return f(n - 1); } catch e { throw e * 2; } } throw input; }
		fun main() { let k = 3; let g = fn (a) { k = k + a; try { f(2); } catch d { print d + k; } return k; }; let t = spawn f(1); print g.(4) - g.(-k); print !k; g.(1, 2); }`,
		// an assertion, and a thread that is still under way at the end
		"fun f(o) { o[0] = 1; o[0] = 0; while 1 { clock; } } fun main() { let o = new(1); spawn f(o); let i = 0; while i < 6 { assert o[0] == 0; i = i + 1; } throw o; }",
		// as many threads as there may be, and one more
		"fun f(n) { print n; } fun main() { let i = 0; while 1 { i = i + 1; spawn f(i * 10); } }",
		// rows in rows
		"fun f(o) { o[0] = new(1); lock o[0]; o[0][0] = o; } fun main() { let o = new(2); join spawn f(o); print o[0][0] == o; o[1] = fn () { return o; }; print len(o[1].()); print 1 / o[9]; }",
	}
}

// given returns what a random run is given.
func given(r *rand.Rand) api.Given {
	g := api.Given{Picks: make([]uint8, r.Intn(200))}
	for range r.Intn(8) {
		g.Inputs = append(g.Inputs, r.Int63()>>r.Intn(64)-3)
	}
	for range r.Intn(8) {
		g.Clocks = append(g.Clocks, int64(r.Intn(100))-50)
	}
	stay := r.Intn(6) // how often a thread stays the same place among the runnable ones
	for i := range g.Picks {
		g.Picks[i] = uint8(r.Intn(256))
		if i > 0 && r.Intn(6) < stay {
			g.Picks[i] = g.Picks[i-1]
		}
	}
	return g
}

// runs calls a function with random runs of all texts.
func runs(t *testing.T, count int, each func(r *rand.Rand, p api.Program, g api.Given, h history)) {
	t.Helper()
	for i, text := range texts() {
		r, p := rand.New(rand.NewSource(int64(i))), parsed(t, text)
		for range count {
			g := given(r)
			each(r, p, g, scheduled(t, p, g, r.Intn(220)))
			if t.Failed() {
				t.Fatalf("in a run of %s", text)
			}
		}
	}
}

// spoilLog overwrites all memory that the lists of a log have, what lies behind their ends included.
func spoilLog(l api.Log) {
	for i := range l.Picks[:cap(l.Picks)] {
		l.Picks[:cap(l.Picks)][i] = api.Pick{Thread: -9, Count: -9}
	}
	spoilNumbers(l.Inputs)
	spoilNumbers(l.Clocks)
}

func spoilNumbers(l []int64) {
	for i := range l[:cap(l)] {
		l[:cap(l)][i] = -99
	}
}

// spoilState overwrites all memory that the lists of a state have, what lies behind their ends included.
func spoilState(s api.State) {
	for _, t := range s.Threads[:cap(s.Threads)] {
		for _, f := range t.Frames[:cap(t.Frames)] {
			spoilValues(f.Regs)
			clear(f.Tries[:cap(f.Tries)])
		}
		clear(t.Frames[:cap(t.Frames)])
	}
	clear(s.Threads[:cap(s.Threads)])
	for _, o := range s.Objects[:cap(s.Objects)] {
		spoilValues(o.Cells)
	}
	clear(s.Objects[:cap(s.Objects)])
	spoilNumbers(s.Outcome.Out)
}

func spoilValues(l []api.Value) {
	for i := range l[:cap(l)] {
		l[:cap(l)][i] = api.Value{Kind: 9, N: -99}
	}
}

func cloneLog(l api.Log) api.Log {
	l.Picks, l.Inputs, l.Clocks = slices.Clone(l.Picks), slices.Clone(l.Inputs), slices.Clone(l.Clocks)
	return l
}

// wrong is a program that is not correct.
type wrong struct {
	program api.Program
	want    api.Errno
}

// wrongs returns a program for each error of lang.Check.
func wrongs(t *testing.T) []wrong {
	t.Helper()
	over := parsed(t, "fun main() { }")
	over.Funcs = slices.Repeat(over.Funcs, api.MaxFuncs+1)
	junk := api.Program{Funcs: []api.Func{{Name: "main", Body: []api.Node{{Kind: 99}}}}}
	l := []wrong{{api.Program{}, api.ErrName}, {junk, api.ErrArg}, {over, api.ErrLimit}}
	for text, want := range map[string]api.Errno{
		"fun main() { print x; }":          api.ErrName,
		"fun main(a) { }":                  api.ErrArg,
		"fun main() { } fun main() { }":    api.ErrTwice,
		"fun f(a) { } fun main() { f(); }": api.ErrArg,
	} {
		l = append(l, wrong{parsed(t, text), want})
	}
	return l
}

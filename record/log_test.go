package record_test

import (
	"fmt"
	"math/rand"
	"slices"
	"testing"

	"sleuth/api"
	"sleuth/machine"
	"sleuth/record"
)

// alternating returns picks of one step each, of two threads that take turns.
func alternating(count int) []api.Pick {
	picks := make([]api.Pick, count)
	for i := range picks {
		picks[i] = api.Pick{Thread: i % 2, Count: 1}
	}
	return picks
}

// P3.2: which logs are well formed, with each limit, and one past it.
func TestShape(t *testing.T) {
	big, fine := make([]int64, api.MaxGiven+1), make([]int64, api.MaxGiven)
	const huge = 1 << 62
	for i, x := range []struct {
		log  api.Log
		want api.Errno
	}{
		{api.Log{}, api.OK},
		{api.Log{Picks: []api.Pick{}, Inputs: []int64{}, Clocks: []int64{}, Sum: 1<<64 - 1}, api.OK},
		{api.Log{Picks: turns("0*6"), Steps: 6}, api.OK},
		{api.Log{Picks: turns("7*1 0*3 7*2"), Steps: 6, Inputs: fine, Clocks: fine}, api.OK},
		{api.Log{Picks: turns("0*65536"), Steps: api.MaxSteps}, api.OK},
		{api.Log{Picks: turns("0*65535 1*1"), Steps: api.MaxSteps}, api.OK},
		{api.Log{Picks: alternating(api.MaxSteps), Steps: api.MaxSteps}, api.OK},
		{api.Log{Inputs: fine, Clocks: fine}, api.OK},
		// limits
		{api.Log{Picks: alternating(api.MaxSteps + 1), Steps: api.MaxSteps + 1}, api.ErrLimit},
		{api.Log{Picks: make([]api.Pick, api.MaxSteps+1)}, api.ErrLimit},
		{api.Log{Inputs: big}, api.ErrLimit},
		{api.Log{Clocks: big}, api.ErrLimit},
		{api.Log{Picks: turns("8*0"), Inputs: big}, api.ErrLimit},
		{api.Log{Picks: turns("8*0"), Clocks: big}, api.ErrLimit},
		// threads
		{api.Log{Picks: turns("8*1"), Steps: 1}, api.ErrForm},
		{api.Log{Picks: turns("-1*1"), Steps: 1}, api.ErrForm},
		{api.Log{Picks: turns("0*1 -1*1"), Steps: 2}, api.ErrForm},
		{api.Log{Picks: turns("0*1 1*1 8*1"), Steps: 3}, api.ErrForm},
		{api.Log{Picks: turns("0*1 0*1"), Steps: 2}, api.ErrForm},
		{api.Log{Picks: turns("0*1 1*1 1*1"), Steps: 3}, api.ErrForm},
		// counts
		{api.Log{Picks: turns("0*0")}, api.ErrForm},
		{api.Log{Picks: turns("0*1 1*0"), Steps: 1}, api.ErrForm},
		{api.Log{Picks: turns("0*2 1*-1"), Steps: 1}, api.ErrForm},
		{api.Log{Picks: turns("0*65537"), Steps: api.MaxSteps + 1}, api.ErrForm},
		{api.Log{Picks: turns("0*65536 1*1"), Steps: api.MaxSteps + 1}, api.ErrForm},
		{api.Log{Picks: turns("0*65536 1*1"), Steps: api.MaxSteps}, api.ErrForm},
		// a sum that wraps around
		{api.Log{Picks: []api.Pick{{Thread: 0, Count: huge}, {Thread: 1, Count: huge}, {Thread: 0, Count: huge}, {Thread: 1, Count: huge}}}, api.ErrForm},
		{api.Log{Picks: []api.Pick{{Thread: 0, Count: 2*huge - 1}, {Thread: 1, Count: 2*huge - 1}, {Thread: 0, Count: 3}}, Steps: 1}, api.ErrForm},
		{api.Log{Picks: []api.Pick{{Thread: 0, Count: 1}, {Thread: 1, Count: 2*huge - 1}}, Steps: -2 * huge}, api.ErrForm},
		// steps
		{api.Log{Steps: 1}, api.ErrForm},
		{api.Log{Steps: -1}, api.ErrForm},
		{api.Log{Picks: turns("0*6"), Steps: 5}, api.ErrForm},
		{api.Log{Picks: turns("0*6"), Steps: 7}, api.ErrForm},
		{api.Log{Picks: turns("0*6"), Steps: -6}, api.ErrForm},
		{api.Log{Picks: turns("0*6")}, api.ErrForm},
	} {
		if e := record.Shape(x.log); e != x.want {
			t.Errorf("log %d: error %d, not %d", i, e, x.want)
		}
		if b, e := record.Encode(x.log); e != x.want || (len(b) > 0) != (e == api.OK) {
			t.Errorf("Encode of log %d: error %d, %d bytes", i, e, len(b))
		}
		if e := record.Check(api.Program{}, x.log); e != api.ErrName {
			t.Errorf("Check of log %d with no program: error %d", i, e)
		}
		if e := record.Check(parsed(t, "fun main() { }"), x.log); x.want != api.OK && e != x.want {
			t.Errorf("Check of log %d: error %d", i, e)
		}
	}
}

// refused is a log that is not of its program.
type refused struct {
	name, text string
	log        api.Log
	want       api.Errno
}

// refusals returns logs for each error of Check but those of the program.
func refusals(t *testing.T) []refused {
	t.Helper()
	// spoilt returns a log of a run, of which something is changed.
	spoilt := func(name, text string, g api.Given, picks string, change func(l *api.Log), want api.Errno) refused {
		l, _ := followed(t, parsed(t, text), g, turns(picks), 50)
		change(&l)
		return refused{name, text, l, want}
	}
	add := func(picks string) func(*api.Log) {
		return func(l *api.Log) {
			for _, x := range turns(picks) {
				l.Picks = append(l.Picks, x)
				l.Steps += x.Count
			}
		}
	}
	waits := "fun f(o) { lock o; } fun main() { let o = new(0); lock o; let t = spawn f(o); join t; }"
	ends := "fun f() { } fun main() { let t = spawn f(); join t; let x = 1; while 1 { } }"
	both := "fun main() { print input; print clock; }"
	g := api.Given{Inputs: []int64{1, 2}, Clocks: []int64{3, 4}}
	deadlock := "0*8 1*1"
	return []refused{
		spoilt("sum", one, inputs(5), "", func(l *api.Log) { l.Sum++ }, api.ErrSum),
		spoilt("the highest byte of the sum", one, inputs(5), "", func(l *api.Log) { l.Sum ^= 1 << 63 }, api.ErrSum),
		spoilt("no sum", one, inputs(5), "", func(l *api.Log) { l.Sum = 0 }, api.ErrSum),
		spoilt("another input", one, inputs(5), "", func(l *api.Log) { l.Inputs[0]++ }, api.ErrSum),
		spoilt("another clock value", both, g, "", func(l *api.Log) { l.Clocks[0]-- }, api.ErrSum),
		spoilt("another order", racing, api.Given{}, "0*4 1*4 2*4 0*1", func(l *api.Log) { l.Picks[1].Thread, l.Picks[2].Thread = 2, 1 }, api.ErrSum),
		spoilt("fewer steps", one, inputs(5), "", func(l *api.Log) { l.Picks[0].Count, l.Steps = 5, 5 }, api.ErrSum),
		spoilt("no steps", "fun main() { }", api.Given{}, "", func(l *api.Log) { l.Picks, l.Steps = nil, 0 }, api.ErrSum),
		spoilt("an input more", one, inputs(5), "", func(l *api.Log) { l.Inputs = []int64{5, 6} }, api.ErrState),
		spoilt("a clock value more", both, g, "", func(l *api.Log) { l.Clocks = []int64{3, 4} }, api.ErrState),
		spoilt("an input and no sum", one, inputs(5), "", func(l *api.Log) { l.Inputs, l.Sum = []int64{5, 6}, 0 }, api.ErrState),
		spoilt("an input less", one, inputs(5), "", func(l *api.Log) { l.Inputs = nil }, api.ErrState), // the run faults, and has no steps more
		spoilt("a clock value less", both, g, "", func(l *api.Log) { l.Clocks = nil }, api.ErrState),
		spoilt("an input less at the last step", "fun main() { input; while 1 { } }", inputs(5), "", func(l *api.Log) { l.Inputs, l.Picks[0].Count, l.Steps = nil, 1, 1 }, api.ErrSum),
		spoilt("a step behind the end", one, inputs(5), "", func(l *api.Log) { l.Picks[0].Count, l.Steps = 7, 7 }, api.ErrState),
		spoilt("a step of no thread behind the end", one, inputs(5), "", add("1*1"), api.ErrState),
		spoilt("a thread that there is not", racing, api.Given{}, "0*50", add("3*1"), api.ErrState),
		spoilt("a thread that there is not yet", racing, api.Given{}, "0*50", func(l *api.Log) { l.Picks = turns("0*3 2*1 0*46") }, api.ErrState),
		spoilt("a thread that there is not, first", racing, api.Given{}, "0*50", func(l *api.Log) { l.Picks = turns("1*1 0*49") }, api.ErrState),
		spoilt("a thread that has ended", ends, api.Given{}, "0*1 1*2 0*47", func(l *api.Log) { l.Picks = turns("0*1 1*3 0*46") }, api.ErrState),
		spoilt("a thread that waits for another", ends, api.Given{}, "0*3 1*2 0*45", func(l *api.Log) { l.Picks = turns("0*4 1*2 0*44") }, api.ErrState),
		spoilt("a thread that waits for a lock", waits, api.Given{}, deadlock, func(l *api.Log) { l.Picks, l.Steps = turns("0*8 1*2"), 10 }, api.ErrState),
		spoilt("a step in a deadlock", waits, api.Given{}, deadlock, add("1*1"), api.ErrState),
		spoilt("a step behind a fault", "fun main() { 1 / 0; }", api.Given{}, "", func(l *api.Log) { l.Picks[0].Count, l.Steps = 4, 4 }, api.ErrState),
		spoilt("form", one, inputs(5), "", func(l *api.Log) { l.Steps++ }, api.ErrForm),
		spoilt("form, and an input more", one, inputs(5), "", func(l *api.Log) { l.Steps, l.Inputs = 5, []int64{5, 6} }, api.ErrForm),
		spoilt("form, of no program", racing, api.Given{}, "0*50", func(l *api.Log) { l.Picks = turns("3*1 3*1 0*48") }, api.ErrForm),
		spoilt("limit", one, inputs(5), "", func(l *api.Log) { l.Inputs = make([]int64, api.MaxGiven+1) }, api.ErrLimit),
		spoilt("limit and form", one, inputs(5), "", func(l *api.Log) { l.Clocks, l.Steps = make([]int64, api.MaxGiven+1), 0 }, api.ErrLimit),
	}
}

// P3.2, and the error of Check that other functions have: P3.3, P3.5, P3.6, P3.8.
func TestRefused(t *testing.T) {
	check := func(what string, p api.Program, l api.Log, want api.Errno) {
		t.Helper()
		if e := record.Check(p, l); e != want {
			t.Errorf("%s: Check: error %d, not %d", what, e, want)
		}
		if g, e := record.Given(p, l); e != want || len(g.Inputs)+len(g.Clocks)+len(g.Picks) > 0 {
			t.Errorf("%s: Given: error %d, %+v", what, e, g)
		}
		if list, e := record.Preemptions(p, l); e != want || len(list) > 0 {
			t.Errorf("%s: Preemptions: error %d, %v", what, e, list)
		}
		for _, n := range []int{0, 1, -1, l.Steps, l.Steps + 1, 1 << 62} { // an n that is not allowed comes behind
			if k, e := record.Prefix(p, l, n); e != want || !isEmptyLog(k) {
				t.Errorf("%s: Prefix(%d): error %d, %+v", what, n, e, k)
			}
		}
		for _, every := range []int{1, 0, -1, api.MaxSteps + 1} {
			if r, e := record.Open(p, l, every); e != want || r != nil {
				t.Errorf("%s: Open with every %d: error %d", what, every, e)
			}
		}
	}
	for _, x := range refusals(t) {
		check(x.name, parsed(t, x.text), x.log, x.want)
	}
	l, _ := recorded(t, parsed(t, one), inputs(5), 9)
	for _, x := range wrongs(t) {
		check("no correct program", x.program, l, x.want)
		check("no correct program, and no form", x.program, api.Log{Steps: 5}, x.want)
		check("no correct program, and a limit", x.program, api.Log{Inputs: make([]int64, api.MaxGiven+1)}, x.want)
	}
}

// P3.2: Check accepts the logs of runs, and so it does once it has read them from bytes.
func TestCheck(t *testing.T) {
	runs(t, 30, func(r *rand.Rand, p api.Program, g api.Given, h history) {
		n := r.Intn(h.end() + 1)
		l := h.log(n)
		if e := record.Check(p, l); e != api.OK {
			t.Errorf("%d steps: error %d", n, e)
		}
		for range 5 {
			x := l
			x.Sum ^= 1 << r.Intn(64)
			if e := record.Check(p, x); e != api.ErrSum {
				t.Errorf("another sum: error %d", e)
			}
		}
	})
	p := parsed(t, "fun main() { }")
	if e := record.Check(p, scheduled(t, p, api.Given{}, 0).log(0)); e != api.OK {
		t.Errorf("a log of no steps: error %d", e)
	}
}

// P3.2: a run that faults because it has read all inputs, or all clock values, is repeated with just these.
func TestCheckFaGiven(t *testing.T) {
	for _, text := range []string{"fun main() { while 1 { print input; } }", "fun main() { while 1 { print clock; } }"} {
		p, g := parsed(t, text), api.Given{Inputs: []int64{1, 2}, Clocks: []int64{1, 2}}
		l, o := recorded(t, p, g, 99)
		if o.Fault != api.FaGiven || len(o.Out) != 2 || record.Check(p, l) != api.OK {
			t.Errorf("%+v, %+v", l, o)
		}
	}
}

// P3.3: the picks by which the scheduler repeats a log.
func TestGiven(t *testing.T) {
	p := parsed(t, racing)
	l, _ := followed(t, p, api.Given{}, turns("0*4 2*2 1*1 0*1 2*1"), 9)
	if g, e := record.Given(p, l); e != api.OK || !slices.Equal(g.Picks, []uint8{0, 0, 0, 0, 2, 2, 1, 0, 2}) || len(g.Inputs)+len(g.Clocks) != 0 {
		t.Errorf("error %d, %+v", e, g)
	}
	// thread 0 waits, and thread 1 ends: then thread 2 is the first one
	text := "fun f() { } fun main() { let a = spawn f(); let b = spawn f(); join a; join b; }"
	p = parsed(t, text)
	l, _ = followed(t, p, api.Given{}, turns("0*5 2*1 1*2 0*2 2*1 0*9"), 99)
	if g, e := record.Given(p, l); e != api.OK || order(l.Picks) != "0*5 2*1 1*2 0*2 2*1 0*3" || !slices.Equal(g.Picks, []uint8{0, 0, 0, 0, 0, 1, 0, 0, 0, 0, 0, 0, 0, 0}) {
		t.Errorf("error %d, %+v, %s", e, g, order(l.Picks))
	}
	p = parsed(t, "fun main() { print input; print clock; print input; }")
	l, _ = recorded(t, p, api.Given{Inputs: []int64{5, 6, 7}, Clocks: []int64{8, 9}}, 5)
	if g, e := record.Given(p, l); e != api.OK || !slices.Equal(g.Inputs, []int64{5, 6}) || !slices.Equal(g.Clocks, []int64{8}) || !slices.Equal(g.Picks, make([]uint8, 5)) {
		t.Errorf("error %d, %+v", e, g)
	}
}

// P3.3: a machine with what Given returns makes the run of the log.
func TestGivenRandom(t *testing.T) {
	runs(t, 40, func(r *rand.Rand, p api.Program, _ api.Given, h history) {
		n := r.Intn(h.end() + 1)
		l := h.log(n)
		g, e := record.Given(p, l)
		if e != api.OK || len(g.Picks) != n || !slices.Equal(g.Inputs, l.Inputs) || !slices.Equal(g.Clocks, l.Clocks) {
			t.Fatalf("error %d, %+v", e, g)
		}
		m, e := machine.New(p, g)
		if e != api.OK {
			t.Fatalf("New: error %d", e)
		}
		for i, thread := range h.threads[:n] {
			if place := slices.Index(m.Runnable(), thread); int(g.Picks[i]) != place {
				t.Fatalf("step %d: pick %d, not %d", i, g.Picks[i], place)
			}
			if got, ok := m.Step(); got != thread || !ok {
				t.Fatalf("step %d: thread %d, not %d", i, got, thread)
			}
		}
		if machine.Sum(m.State()) != l.Sum {
			t.Errorf("the last state is another one")
		}
	})
}

// P3.5: the prefixes of a log that reads inputs and clock values.
func TestPrefix(t *testing.T) {
	p := parsed(t, "fun main() { print input; print clock; print input; }")
	l, _ := recorded(t, p, api.Given{Inputs: []int64{5, 6}, Clocks: []int64{8}}, 99)
	h := replayed(t, p, l)
	read := ""
	for n := range l.Steps + 1 {
		k, e := record.Prefix(p, l, n)
		if e != api.OK || !sameLog(k, h.log(n)) {
			t.Errorf("%d: error %d, %+v", n, e, k)
		}
		read += fmt.Sprint(len(k.Inputs), len(k.Clocks), " ")
	}
	if read != "0 0 1 0 1 0 1 1 1 1 2 1 2 1 2 1 2 1 " {
		t.Errorf("what prefixes read: %s", read)
	}
	for _, n := range []int{-1, l.Steps + 1, -1 << 63, 1<<63 - 1} {
		if k, e := record.Prefix(p, l, n); e != api.ErrArg || !isEmptyLog(k) {
			t.Errorf("%d: error %d, %+v", n, e, k)
		}
	}
}

// P3.5, P3.12: the prefixes of random logs, and the prefixes of these.
func TestPrefixRandom(t *testing.T) {
	runs(t, 20, func(r *rand.Rand, p api.Program, _ api.Given, h history) {
		l := h.log(h.end())
		for range 8 {
			n := r.Intn(h.end() + 1)
			k, e := record.Prefix(p, l, n)
			if e != api.OK || !sameLog(k, h.log(n)) || record.Check(p, k) != api.OK {
				t.Errorf("%d of %d steps: error %d, %+v", n, h.end(), e, k)
			}
			less := r.Intn(n + 1)
			if again, e := record.Prefix(p, k, less); e != api.OK || !sameLog(again, h.log(less)) {
				t.Errorf("%d of %d of %d steps: error %d, %+v", less, n, h.end(), e, again)
			}
		}
		if k, e := record.Prefix(p, l, h.end()); e != api.OK || !sameLog(k, l) {
			t.Errorf("all steps: error %d, %+v", e, k)
		}
	})
}

// P3.6: places between picks at which the thread could have gone on.
func TestPreemptions(t *testing.T) {
	waits := "fun f() { } fun main() { let a = spawn f(); let b = spawn f(); join a; join b; }"
	locks := "fun f(o) { lock o; unlock o; while 1 { } } fun main() { let o = new(0); lock o; spawn f(o); spawn f(o); unlock o; while 1 { } }"
	for _, x := range []struct {
		text, picks string
		want        []int
	}{
		{"fun main() { }", "0*2", nil},
		{racing, "", nil},
		{racing, "0*4 2*2 1*1 0*1 2*1", []int{1, 2, 3, 4}},
		{waits, "0*5 1*2 2*2 0*9", nil},
		{waits, "0*5 2*1 1*2 0*2 2*1 0*9", []int{2}}, // threads 1 and 2 end, and thread 0 waits for them
		{waits, "0*2 1*1 0*3 1*1 2*1 0*2 2*1 0*9", []int{1, 2, 5}},
		{locks, "0*7 1*1 0*2 2*1 0*2 1*2 0*1 1*2 2*1", []int{1, 3, 5, 6, 7, 8}}, // at 2 and 4 a thread waits for the lock
	} {
		p := parsed(t, x.text)
		l, _ := followed(t, p, api.Given{}, turns(x.picks), max(9, stepsOf(turns(x.picks))))
		list, e := record.Preemptions(p, l)
		if e != api.OK || !slices.Equal(list, x.want) {
			t.Errorf("%s of %s: error %d, %v, not %v", order(l.Picks), x.text, e, list, x.want)
		}
	}
	if list, e := record.Preemptions(parsed(t, racing), scheduled(t, parsed(t, racing), api.Given{}, 0).log(0)); e != api.OK || len(list) != 0 {
		t.Errorf("a log of no steps: error %d, %v", e, list)
	}
}

func stepsOf(picks []api.Pick) int {
	n := 0
	for _, x := range picks {
		n += x.Count
	}
	return n
}

// P3.6: against the words of the chapter, with random logs.
func TestPreemptionsRandom(t *testing.T) {
	found, others := 0, 0
	runs(t, 40, func(r *rand.Rand, p api.Program, _ api.Given, h history) {
		l := h.log(h.end())
		m, _ := machine.New(p, api.Given{Inputs: l.Inputs, Clocks: l.Clocks})
		var want []int
		for i, x := range l.Picks {
			if i > 0 && slices.Contains(m.Runnable(), l.Picks[i-1].Thread) {
				want = append(want, i)
			}
			for range x.Count {
				m.StepOf(x.Thread)
			}
		}
		list, e := record.Preemptions(p, l)
		if e != api.OK || !slices.Equal(list, want) {
			t.Errorf("%s: error %d, %v, not %v", order(l.Picks), e, list, want)
		}
		found += len(want)
		others += max(len(l.Picks)-1, 0) - len(want)
	})
	if found < 1000 || others < 100 {
		t.Errorf("%d preemptions, and %d other places", found, others)
	}
}

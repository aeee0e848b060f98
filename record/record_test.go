package record_test

import (
	"math/rand"
	"slices"
	"testing"

	"sleuth/api"
	"sleuth/machine"
	"sleuth/record"
)

// P3.1: the chapter's example.
func TestRecord(t *testing.T) {
	p := parsed(t, one)
	l, o := recorded(t, p, inputs(5, 6), 100)
	want := api.Log{Picks: []api.Pick{{Thread: 0, Count: 6}}, Inputs: []int64{5}, Steps: 6, Sum: scheduled(t, p, inputs(5), 6).log(6).Sum}
	if !sameLog(l, want) || !sameOutcome(o, api.Outcome{End: api.EnDone, Out: []int64{5}, Steps: 6}) {
		t.Errorf("%+v, %+v", l, o)
	}
}

// P3.1: the log and the outcome of random runs, with any fuel.
func TestRecordRandom(t *testing.T) {
	ends, switches := map[api.End]int{}, 0
	runs(t, 40, func(r *rand.Rand, p api.Program, g api.Given, h history) {
		for _, fuel := range []int{h.end(), h.end() / 2, r.Intn(h.end() + 1)} {
			l, o := recorded(t, p, g, fuel)
			if !sameLog(l, h.log(fuel)) || !sameOutcome(o, h.outcome(fuel)) {
				t.Errorf("fuel %d: %+v, %+v, not %+v, %+v", fuel, l, o, h.log(fuel), h.outcome(fuel))
			}
			if run, e := machine.Run(p, g, fuel); e != api.OK || !sameOutcome(o, run) {
				t.Errorf("fuel %d: %+v, not %+v", fuel, o, run)
			}
			ends[o.End]++
			switches += len(l.Picks)
		}
		if h.states[h.end()].Outcome.End == api.EnNone {
			return
		}
		for _, fuel := range []int{h.end() + 1, api.MaxSteps} { // more than the run needs
			if l, o := recorded(t, p, g, fuel); !sameLog(l, h.log(h.end())) || !sameOutcome(o, h.outcome(h.end())) {
				t.Errorf("fuel %d: %+v, %+v", fuel, l, o)
			}
		}
	})
	for end := api.EnDone; end <= api.EnFuel; end++ {
		if ends[end] < 10 {
			t.Errorf("only %d runs with the end %d", ends[end], end)
		}
	}
	if switches < 5000 {
		t.Errorf("only %d picks", switches)
	}
}

// P3.1: a run of no steps, and one of as many as there may be.
func TestRecordFuel(t *testing.T) {
	p := parsed(t, racing)
	l, o := recorded(t, p, api.Given{}, 0)
	if !sameLog(l, scheduled(t, p, api.Given{}, 0).log(0)) || len(l.Picks) != 0 || !sameOutcome(o, api.Outcome{End: api.EnFuel}) {
		t.Errorf("%+v, %+v", l, o)
	}
	p = parsed(t, "fun main() { while 1 { } }")
	l, o = recorded(t, p, api.Given{}, api.MaxSteps)
	if l.Steps != api.MaxSteps || order(l.Picks) != "0*65536" || !sameOutcome(o, api.Outcome{End: api.EnFuel, Steps: api.MaxSteps}) {
		t.Errorf("%+v, %+v", l, o)
	}
	if e := record.Check(p, l); e != api.OK {
		t.Errorf("Check: error %d", e)
	}
}

// P3.1, P3.7: the sum is that of the state, which does not say EnFuel; only the outcome does.
func TestFuelSum(t *testing.T) {
	p := parsed(t, one)
	m, _ := machine.New(p, inputs(5))
	m.Step()
	want := machine.Sum(m.State())
	if l, o := recorded(t, p, inputs(5), 1); l.Sum != want || o.End != api.EnFuel {
		t.Errorf("Record: %+v, %+v", l, o)
	}
	if l, o := followed(t, p, inputs(5), nil, 1); l.Sum != want || o.End != api.EnFuel {
		t.Errorf("Follow: %+v, %+v", l, o)
	}
}

// P3.1: the errors of Record, in their order.
func TestRecordErrors(t *testing.T) {
	p := parsed(t, "fun main() { print input; print clock; }")
	big, fine := make([]int64, api.MaxGiven+1), make([]int64, api.MaxGiven)
	check := func(what string, p api.Program, g api.Given, fuel int, want api.Errno) {
		t.Helper()
		l, o, e := record.Record(p, g, fuel)
		if e != want || e != api.OK && (!isEmptyLog(l) || !sameOutcome(o, api.Outcome{})) {
			t.Errorf("%s: error %d, %+v, %+v", what, e, l, o)
		}
	}
	for _, fuel := range []int{-1, api.MaxSteps + 1, -1 << 63, 1<<63 - 1} {
		check("fuel", p, inputs(1), fuel, api.ErrArg)
		check("fuel and limits", p, api.Given{Inputs: big}, fuel, api.ErrArg)
		check("fuel and no program", api.Program{}, inputs(1), fuel, api.ErrArg)
	}
	for _, x := range wrongs(t) {
		check("program", x.program, inputs(1), 9, x.want)
		check("program and limits", x.program, api.Given{Inputs: big}, 9, x.want)
	}
	check("inputs", p, api.Given{Inputs: big}, 9, api.ErrLimit)
	check("clocks", p, api.Given{Clocks: big}, 9, api.ErrLimit)
	check("picks", p, api.Given{Picks: make([]uint8, api.MaxSteps+1)}, 9, api.ErrLimit)
	check("at the limits", p, api.Given{Inputs: fine, Clocks: fine, Picks: make([]uint8, api.MaxSteps)}, api.MaxSteps, api.OK)
}

// follows checks what Follow does with picks: which threads take the steps, and how the run ends.
func follows(t *testing.T, text, picks string, fuel int, want string, end api.End) {
	t.Helper()
	l, o := followed(t, parsed(t, text), api.Given{}, turns(picks), fuel)
	if order(l.Picks) != want || o.End != end {
		t.Errorf("%s with fuel %d: %s, end %d, not %s, end %d", picks, fuel, order(l.Picks), o.End, want, end)
	}
}

// P3.7: which threads take the steps, where all of them always can.
func TestFollow(t *testing.T) {
	follows(t, racing, "", 20, "0*20", api.EnFuel)
	follows(t, racing, "", 0, "", api.EnFuel)
	// the first thread begins the others by its steps 1 and 3
	follows(t, racing, "0*4 2*3 1*2 2*1", 10, "0*4 2*3 1*2 2*1", api.EnFuel)
	follows(t, racing, "0*4 2*3 1*2 2*1", 15, "0*4 2*3 1*2 2*6", api.EnFuel)
	follows(t, racing, "0*4 2*3 1*2 2*1", 6, "0*4 2*2", api.EnFuel)
	follows(t, racing, "0*4 2*3 1*2 2*1", 7, "0*4 2*3", api.EnFuel)
	follows(t, racing, "0*4 2*3", 0, "", api.EnFuel)
	// elements with the same thread one behind the other, and without any step
	follows(t, racing, "0*1 0*1 0*2 1*0 2*0 0*1 1*2", 8, "0*5 1*3", api.EnFuel)
	follows(t, racing, "0*4 2*1 1*0", 9, "0*4 2*5", api.EnFuel)
	// the greatest counts
	follows(t, racing, "0*4 1*9223372036854775807 2*9223372036854775807", 30, "0*4 1*26", api.EnFuel)
}

// P3.7: threads that are not runnable are passed over, and the one that took the last step goes on at the end.
func TestFollowPassedOver(t *testing.T) {
	// threads that there are not, or not yet
	follows(t, racing, "1*5 7*9", 9, "0*9", api.EnFuel)
	follows(t, racing, "2*2 0*2 2*5 1*3 7*9223372036854775807 2*4", 12, "0*2 1*10", api.EnFuel)
	follows(t, racing, "0*4 2*3 5*1", 12, "0*4 2*8", api.EnFuel)
	// f waits for the lock: by its step 2 it would have it
	locked := `fun f(o) { lock o; print 1; unlock o; while 1 { } }
	fun main() { let o = new(0); lock o; spawn f(o); spawn f(o); print 0; unlock o; while 1 { } }`
	follows(t, locked, "0*7 1*5", 20, "0*7 1*1 0*12", api.EnFuel)
	follows(t, locked, "0*9 1*5 2*7 1*2", 20, "0*9 1*1 2*1 0*9", api.EnFuel)
	follows(t, locked, "0*9 2*5 0*4 1*3 2*4", 25, "0*9 2*1 0*4 1*11", api.EnFuel)
}

// P3.7: at the end, the first runnable thread goes on as long as it is runnable, also when one ahead of it becomes so.
func TestFollowEnd(t *testing.T) {
	// thread 1 ends, thread 0 comes to the next join, and thread 2 is the first one then
	follows(t, "fun f() { 1; } fun main() { spawn f(); spawn f(); join 1; join 2; }", "0*3 2*1 1*1", 50, "0*3 2*1 1*3 0*2 2*2 0*3", api.EnDone)
	// thread 1 has the lock; behind its unlock thread 0 could go on, but thread 1 does
	follows(t, `fun f(o) { lock o; unlock o; 1; 2; 3; }
	fun main() { let o = new(0); let t = spawn f(o); lock o; }`, "0*6 1*2 0*9", 50, "0*6 1*2 0*1 1*7 0*3", api.EnDone)
	// the first runnable one, here thread 2, unlocks what thread 1 waits for, and goes on
	follows(t, `fun f(o) { lock o; unlock o; 1; 2; }
	fun main() { let o = new(0); spawn f(o); spawn f(o); join 2; }`, "0*8 2*2 1*1 0*2", 50, "0*8 2*2 1*1 2*6 0*3", api.EnDone)
}

// P3.7: a run may end ahead of the end of the picks.
func TestFollowOver(t *testing.T) {
	follows(t, "fun main() { 1; }", "0*2 0*1 0*9 1*9 0*1", 50, "0*3", api.EnDone)
	follows(t, "fun main() { 1 / 0; }", "0*9 0*9", 50, "0*3", api.EnFault)
	follows(t, "fun main() { throw 1; }", "0*9", 50, "0*2", api.EnThrown)
	follows(t, "fun main() { assert 0; }", "0*9", 50, "0*2", api.EnAssert)
	follows(t, "fun f(o) { lock o; } fun main() { let o = new(0); lock o; join spawn f(o); }", "1*4 0*99 1*9 0*9", 50, "0*7 1*1", api.EnDeadlock)
	follows(t, "fun main() { 1; }", "", 3, "0*3", api.EnDone)
	follows(t, "fun main() { 1; }", "", 2, "0*2", api.EnFuel)
}

// P3.7: what is given, of which the picks do not matter.
func TestFollowGiven(t *testing.T) {
	text := "fun f() { print clock; print input; while 1 { } } fun main() { spawn f(); print input; while 1 { } }"
	p := parsed(t, text)
	g := api.Given{Inputs: []int64{5, 6, 7}, Clocks: []int64{8, 9}}
	picks := turns("0*1 1*5 0*3")
	h := scheduled(t, p, api.Given{Inputs: g.Inputs, Clocks: g.Clocks, Picks: []uint8{0, 1, 1, 1, 1, 1, 0, 0, 0}}, 9)
	for _, x := range [][]uint8{nil, {1, 1, 1, 1, 1, 1, 1, 1}, make([]uint8, api.MaxSteps+1)} {
		g.Picks = x
		l, o := followed(t, p, g, picks, 9)
		if !sameLog(l, h.log(9)) || !sameOutcome(o, h.outcome(9)) || !slices.Equal(l.Inputs, []int64{5, 6}) || !slices.Equal(l.Clocks, []int64{8}) {
			t.Errorf("%d picks: %+v, %+v", len(x), l, o)
		}
	}
	if l, o := followed(t, p, api.Given{Inputs: []int64{5}, Clocks: []int64{8}}, picks, 99); order(l.Picks) != "0*1 1*5 0*1" || o.Fault != api.FaGiven {
		t.Errorf("%+v, %+v", l, o)
	}
}

// P3.7: the errors of Follow, in their order.
func TestFollowErrors(t *testing.T) {
	p := parsed(t, "fun main() { print input; print clock; }")
	big, fine := make([]int64, api.MaxGiven+1), make([]int64, api.MaxGiven)
	many := make([]api.Pick, api.MaxSteps+1)
	check := func(what string, p api.Program, g api.Given, picks []api.Pick, fuel int, want api.Errno) {
		t.Helper()
		l, o, e := record.Follow(p, g, picks, fuel)
		if e != want || e != api.OK && (!isEmptyLog(l) || !sameOutcome(o, api.Outcome{})) {
			t.Errorf("%s: error %d, %+v, %+v", what, e, l, o)
		}
	}
	for _, fuel := range []int{-1, api.MaxSteps + 1, -1 << 63, 1<<63 - 1} {
		check("fuel", p, inputs(1), nil, fuel, api.ErrArg)
		check("fuel and picks", p, inputs(1), many, fuel, api.ErrArg)
		check("fuel and no program", api.Program{}, inputs(1), nil, fuel, api.ErrArg)
	}
	for _, x := range turns("-1*1 8*1 -9223372036854775808*1 9223372036854775807*1 0*-1 0*-9223372036854775808 -1*-1") {
		check("pick", p, inputs(1), []api.Pick{x}, 9, api.ErrArg)
		check("last pick", p, inputs(1), append(turns("0*99 0*1"), x), 9, api.ErrArg)
		check("pick and no program", api.Program{}, inputs(1), []api.Pick{x}, 9, api.ErrArg)
		check("pick, without fuel", p, inputs(1), []api.Pick{x}, 0, api.ErrArg)
		check("too many picks", p, inputs(1), append(slices.Clone(many), x), 9, api.ErrArg)
	}
	check("picks", p, inputs(1), many, 9, api.ErrLimit)
	check("picks and no program", api.Program{}, inputs(1), many, 9, api.ErrLimit)
	for _, x := range wrongs(t) {
		check("program", x.program, inputs(1), nil, 9, x.want)
		check("program and limits", x.program, api.Given{Inputs: big}, nil, 9, x.want)
	}
	check("inputs", p, api.Given{Inputs: big}, nil, 9, api.ErrLimit)
	check("clocks", p, api.Given{Clocks: big}, nil, 9, api.ErrLimit)
	many[api.MaxSteps-1] = api.Pick{Thread: api.MaxThreads - 1, Count: 1<<63 - 1}
	check("at the limits", p, api.Given{Inputs: fine, Clocks: fine}, many[:api.MaxSteps], api.MaxSteps, api.OK)
}

// P3.7: against the words of the promise, with random picks.
func TestFollowRandom(t *testing.T) {
	runs(t, 60, func(r *rand.Rand, p api.Program, g api.Given, _ history) {
		picks := make([]api.Pick, r.Intn(60))
		for i := range picks {
			picks[i] = api.Pick{Thread: r.Intn(3), Count: r.Intn(9)}
			if r.Intn(5) == 0 {
				picks[i].Thread = r.Intn(api.MaxThreads)
			}
		}
		fuel := r.Intn(300)
		h := directed(t, p, g, picks, fuel)
		l, o := followed(t, p, g, picks, fuel)
		if !sameLog(l, h.log(h.end())) || !sameOutcome(o, h.outcome(h.end())) {
			t.Errorf("%v with fuel %d: %+v, %+v, not %+v, %+v", picks, fuel, l, o, h.log(h.end()), h.outcome(h.end()))
		}
	})
}

// directed returns the run that Follow is to make: its own reading of P3.7, step by step.
func directed(t *testing.T, p api.Program, g api.Given, picks []api.Pick, fuel int) history {
	t.Helper()
	m, e := machine.New(p, g)
	if e != api.OK {
		t.Fatalf("New: error %d", e)
	}
	h := history{g, []api.State{m.State()}, nil}
	picks = slices.Clone(picks)
	for last := -1; len(h.threads) < fuel && !m.Over(); {
		l := m.Runnable()
		for len(picks) > 0 && (picks[0].Count == 0 || !slices.Contains(l, picks[0].Thread)) {
			picks = picks[1:]
		}
		switch {
		case len(picks) > 0:
			picks[0].Count--
			last = picks[0].Thread
		case !slices.Contains(l, last):
			last = l[0]
		}
		if e := m.StepOf(last); e != api.OK {
			t.Fatalf("thread %d: error %d", last, e)
		}
		h.threads = append(h.threads, last)
		h.states = append(h.states, m.State())
	}
	return h
}

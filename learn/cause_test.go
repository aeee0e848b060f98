package learn_test

import (
	"fmt"
	"math/rand"
	"slices"
	"testing"

	"sleuth/api"
	"sleuth/learn"
	"sleuth/machine"
	"sleuth/record"
	"sleuth/reduce"
)

// P8.4: which parts of an outcome count.
func TestVerdict(t *testing.T) {
	done := api.Outcome{End: api.EnDone, Value: num(0), Out: []int64{1, 2}, Steps: 20}
	thrown := api.Outcome{End: api.EnThrown, Line: 4, Value: num(7), Out: []int64{1}, Steps: 9}
	assert := api.Outcome{End: api.EnAssert, Line: 3, Out: []int64{1}, Steps: 9}
	fault := api.Outcome{End: api.EnFault, Fault: api.FaZero, Line: 3, Out: []int64{1}, Steps: 9}
	with := func(o api.Outcome, change func(o *api.Outcome)) api.Outcome {
		change(&o)
		return o
	}
	line := func(o *api.Outcome) { o.Line = 5 }
	value := func(o *api.Outcome) { o.Value.N = 5 }
	kind := func(o *api.Outcome) { o.Value.Kind = api.VaRef }
	out := func(o *api.Outcome) { o.Out = nil }
	steps := func(o *api.Outcome) { o.Steps = 77 }
	which := func(o *api.Outcome) { o.Fault = api.FaRange }
	for _, x := range []struct {
		x, pass, fail api.Outcome
		want          api.Verdict
	}{
		{assert, done, assert, api.VeFail}, {done, done, assert, api.VePass}, {thrown, done, assert, api.VeUnknown}, {done, done, done, api.VeFail}, {assert, assert, done, api.VePass},
		{with(done, steps), done, assert, api.VePass}, {with(done, value), done, assert, api.VeUnknown}, {with(done, kind), done, assert, api.VeUnknown}, {with(done, out), done, assert, api.VeUnknown}, {with(done, line), done, assert, api.VeUnknown}, {with(done, which), done, assert, api.VeUnknown},
		{with(done, out), done, with(done, out), api.VeFail}, {done, done, with(done, out), api.VePass}, {done, done, with(done, steps), api.VeFail},
		{with(thrown, steps), done, thrown, api.VeFail}, {with(thrown, value), done, thrown, api.VeUnknown}, {with(thrown, out), done, thrown, api.VeUnknown}, {with(thrown, line), done, thrown, api.VeUnknown}, {with(thrown, kind), thrown, done, api.VeUnknown}, {thrown, thrown, with(thrown, value), api.VePass},
		{with(assert, steps), done, assert, api.VeFail}, {with(assert, value), done, assert, api.VeFail}, {with(assert, out), done, assert, api.VeFail}, {with(assert, line), done, assert, api.VeUnknown}, {with(assert, which), done, assert, api.VeUnknown},
		{with(fault, out), done, fault, api.VeFail}, {with(fault, which), done, fault, api.VeUnknown}, {with(fault, which), fault, with(fault, which), api.VeFail}, {with(fault, line), done, fault, api.VeUnknown}, {with(fault, value), fault, done, api.VePass},
		{api.Outcome{End: api.EnFuel, Out: []int64{1}}, done, api.Outcome{End: api.EnFuel, Steps: 3}, api.VeFail}, {api.Outcome{End: api.EnDeadlock}, api.Outcome{End: api.EnDeadlock, Out: []int64{1}}, done, api.VePass}, {api.Outcome{End: api.EnFuel}, api.Outcome{End: api.EnDeadlock}, done, api.VeUnknown},
		{api.Outcome{}, api.Outcome{}, api.Outcome{}, api.VeFail}, {api.Outcome{}, api.Outcome{}, done, api.VePass}, {api.Outcome{End: 99}, done, api.Outcome{End: 99}, api.VeFail}, {api.Outcome{End: api.EnDone, Out: []int64{}}, done, api.Outcome{End: api.EnDone}, api.VeFail},
	} {
		if v := learn.Verdict(x.x, x.pass, x.fail); v != x.want {
			t.Errorf("Verdict(%v, %v, %v): %d, not %d", x.x, x.pass, x.fail, v, x.want)
		}
	}
}

// isolated returns what Isolate says, without an error.
func isolated(t *testing.T, p api.Program, pass, fail api.Log, n, fuel int) (base, places []api.Place, found bool) {
	t.Helper()
	base, places, found, e := learn.Isolate(p, pass, fail, n, fuel)
	if e != api.OK || !found && (base != nil || places != nil) {
		t.Fatalf("Isolate(%s, %d): %v, %v, %v, error %d", written(t, p), n, base, places, found, e)
	}
	return base, places, found
}

// P8.4: the places that decide, in runs whose states differ in a few places.
func TestIsolate(t *testing.T) {
	sum := body(t, "let a = input; let b = input; let c = a * 2; assert c < 9; print b;")
	pair := body(t, "let a = input; let b = input; let c = input; assert a + b < 9; print 1;")
	heap := body(t, "let o = new(2); o[0] = input; o[1] = input; let x = 0; x = x; assert o[0] * o[1] < 9; print 1;")
	// both are needed, and with one of them the run ends otherwise
	both := body(t, "let a = input; let b = input; if a { if b { assert 0; } throw 1; } if b { throw 2; } print 1;")
	either := body(t, "let a = input; let b = input; assert a + b == 0; print 1;")
	calls := parsed(t, "fun f(n) { let m = n + 1; assert m < 3; return m; } fun main() { let x = input; print f(x) + f(1); }")
	for _, x := range []struct {
		p            api.Program
		pass, fail   []int64
		n            int
		found        bool
		base, places []api.Place
	}{
		{sum, []int64{1, 5}, []int64{6, 7}, 4, true, nil, []api.Place{reg(0, 0)}}, {sum, []int64{1, 5}, []int64{6, 7}, 0, false, nil, nil}, {sum, []int64{1, 5}, []int64{6, 7}, 1, true, nil, []api.Place{reg(0, 3)}},
		{sum, []int64{1, 5}, []int64{6, 7}, 7, true, []api.Place{reg(0, 0)}, []api.Place{reg(0, 3)}}, {sum, []int64{1, 5}, []int64{6, 7}, 8, true, nil, []api.Place{reg(0, 2)}}, {sum, []int64{1, 5}, []int64{6, 7}, 11, true, []api.Place{reg(0, 2)}, []api.Place{reg(0, 3)}},
		{sum, []int64{1, 5}, []int64{6, 7}, 12, false, nil, nil}, {sum, []int64{1, 5}, []int64{6, 7}, 13, false, nil, nil}, {sum, []int64{1, 5}, []int64{6, 7}, 1 << 40, false, nil, nil},
		// The first half of the differences, a and b, fails; b alone passes.
		{pair, []int64{1, 2, 3}, []int64{5, 6, 7}, 6, true, []api.Place{reg(0, 1)}, []api.Place{reg(0, 0)}}, {pair, []int64{1, 2, 3}, []int64{9, 2, 3}, 6, true, nil, []api.Place{reg(0, 0)}}, {pair, []int64{1, 2, 7}, []int64{1, 8, 3}, 6, true, nil, []api.Place{reg(0, 1)}},
		{heap, []int64{1, 2}, []int64{3, 4}, 15, true, []api.Place{reg(0, 4), cellOf(0, 1)}, []api.Place{cellOf(0, 0)}}, {heap, []int64{1, 2}, []int64{9, 4}, 15, true, []api.Place{reg(0, 4)}, []api.Place{cellOf(0, 0)}},
		{both, []int64{0, 0}, []int64{1, 1}, 4, true, []api.Place{reg(0, 2)}, []api.Place{reg(0, 0), reg(0, 1)}}, {both, []int64{0, 0}, []int64{1, 0}, 4, true, nil, []api.Place{reg(0, 0)}}, // thrown
		{either, []int64{0, 0}, []int64{3, 4}, 4, true, nil, []api.Place{reg(0, 0)}}, {either, []int64{0, 0}, []int64{0, 4}, 4, true, nil, []api.Place{reg(0, 1)}},
		{calls, []int64{1}, []int64{2}, 4, true, []api.Place{reg(0, 0), reg(0, 1)}, []api.Place{reg(1, 0)}}, {calls, []int64{1}, []int64{2}, 8, true, []api.Place{reg(0, 0), reg(0, 1), reg(1, 0)}, []api.Place{reg(1, 1)}},
	} {
		pass, fail := recorded(t, x.p, given(x.pass...), 200), recorded(t, x.p, given(x.fail...), 200)
		base, places, found := isolated(t, x.p, pass, fail, x.n, 200)
		if found != x.found || !slices.Equal(base, x.base) || !slices.Equal(places, x.places) {
			t.Errorf("%s of %v and %v at %d: %v, %v, %v, not %v, %v", written(t, x.p), x.pass, x.fail, x.n, base, places, found, x.base, x.places)
		}
	}
}

// P8.4: runs whose states are not alike in shape, that are too short, or whose search finds nothing.
func TestIsolateNothing(t *testing.T) {
	p := parsed(t, "fun f(x) { return x; } fun main() { let a = input; if a { f(1); let o = new(2); } else { f(2); } print a; assert a < 2; }")
	pass, fail := recorded(t, p, given(0), 200), recorded(t, p, given(5), 200)
	for n := range max(pass.Steps, fail.Steps) + 2 {
		_, _, found := isolated(t, p, pass, fail, n, 200)
		alike := n <= min(pass.Steps, fail.Steps) && learn.Shape(stateOf(t, p, pass, n), stateOf(t, p, fail, n))
		if found != (alike && n > 0) {
			t.Errorf("state %d: %v", n, found)
		}
	}
	// with less fuel the runs do not come to their ends
	for fuel := range 40 {
		_, _, found := isolated(t, p, pass, fail, 2, fuel)
		if want := fuel >= max(pass.Steps, fail.Steps)-2; found != want && fuel != 0 {
			t.Errorf("fuel %d: %v", fuel, found)
		}
	}
	// a deadlock is over, and a state that is over is not compared
	q := parsed(t, "fun f(o) { lock o; } fun main() { let o = new(0); let a = input; if a { lock o; } let t = spawn f(o); join t; print a; }")
	stuck, free := recorded(t, q, given(1), 200), recorded(t, q, given(0), 200)
	if _, _, found := isolated(t, q, free, stuck, stuck.Steps, 200); found || stateOf(t, q, stuck, stuck.Steps).Outcome.End != api.EnDeadlock {
		t.Error("a deadlock")
	}
}

// P8.4: the passing run may end in any way, and the failing one, too.
func TestIsolateEnds(t *testing.T) {
	p := parsed(t, `fun f(o) { lock o; }
		fun main() { let o = new(1); let a = input;
			if a == 1 { print 1 / 0; } if a == 2 { assert 0; } if a == 3 { throw 3; } if a == 4 { lock o; join spawn f(o); } while a == 5 { } if a == 6 { return 6; } if a == 7 { print 7; } }`)
	for x := range int64(8) {
		for y := range int64(8) {
			pass, fail := recorded(t, p, given(x), 300), recorded(t, p, given(y), 300)
			base, places, found, e := learn.Isolate(p, pass, fail, 5, 300)
			switch {
			case x == y:
				if e != api.ErrClash || found || base != nil || places != nil {
					t.Errorf("%d and %d: %v, %v, %v, error %d", x, y, base, places, found, e)
				}
			case e != api.OK || !found || base != nil || !slices.Equal(places, []api.Place{reg(0, 1)}):
				t.Errorf("%d and %d: %v, %v, %v, error %d", x, y, base, places, found, e)
			}
		}
	}
	// A log that is cut off has the end EnFuel.
	l := recorded(t, p, given(0), 300)
	cut, e := record.Prefix(p, l, 9)
	if e != api.OK {
		t.Fatal(e)
	}
	endless := recorded(t, p, given(5), 300)
	if _, _, _, e := learn.Isolate(p, cut, endless, 0, 300); e != api.ErrClash {
		t.Error(e)
	}
	if _, _, found, e := learn.Isolate(p, cut, l, 5, 300); found || e != api.OK { // no difference
		t.Error(found, e)
	}
}

// P8.4: states are compared up to the last one of the shorter log, and not behind it, though the states there may look alike.
func TestShorterLog(t *testing.T) {
	p := body(t, "let i = input; while i > 0 { i = i - 1; }")
	long, short := recorded(t, p, given(5), 200), recorded(t, p, given(1000), 20)
	for n := range long.Steps + 2 {
		// the loop begins behind 2 steps, and goes round in 9
		_, places, found := isolated(t, p, long, short, n, 55)
		if n > short.Steps && found || n%9 == 2 && n <= short.Steps && (!found || !slices.Equal(places, []api.Place{reg(0, 0)})) {
			t.Errorf("state %d: %v, %v", n, places, found)
		}
	}
	for n := range long.Steps + 2 {
		_, _, found := isolated(t, p, short, long, n, 55)
		if n > short.Steps && found || n%9 == 2 && n <= short.Steps && !found {
			t.Errorf("the other way round, state %d: %v", n, found)
		}
	}
	if l, e := learn.Transitions(p, long, short, 20, 55); e != api.OK || len(l) != 1 || l[0].State != 20 {
		t.Error(l, e)
	}
}

// P8.4: the errors of Isolate and Transitions, and which one is told first.
func TestCauseErrors(t *testing.T) {
	p := body(t, "let a = input; assert a < 3;")
	other := body(t, "print 1;")
	pass, fail := recorded(t, p, given(1), 99), recorded(t, p, given(5), 99)
	shapeless, forged, foreign := pass, pass, recorded(t, other, given(), 99)
	shapeless.Steps++
	forged.Sum++
	none, big := -1, api.MaxSteps+1
	for _, x := range []struct {
		p          api.Program
		pass, fail api.Log
		n, fuel    int // n or every
		want       api.Errno
		also       api.Errno // of Transitions
	}{
		{brokenPrograms(t)[api.ErrTwice], shapeless, forged, none, none, api.ErrTwice, api.ErrTwice}, {brokenPrograms(t)[api.ErrLimit], pass, fail, 1, 9, api.ErrLimit, api.ErrLimit},
		{p, shapeless, forged, none, big, api.ErrForm, api.ErrForm}, {p, forged, shapeless, none, big, api.ErrSum, api.ErrSum}, {p, pass, shapeless, none, big, api.ErrForm, api.ErrForm}, {p, pass, forged, 1, 9, api.ErrSum, api.ErrSum}, {p, foreign, fail, 1, 9, api.ErrState, api.ErrState}, {p, pass, foreign, none, none, api.ErrState, api.ErrState}, {other, pass, fail, 1, 9, api.ErrState, api.ErrState},
		{p, api.Log{Picks: make([]api.Pick, api.MaxSteps+1)}, fail, 1, 9, api.ErrLimit, api.ErrLimit}, {p, pass, api.Log{Inputs: make([]int64, api.MaxGiven+1)}, 1, 9, api.ErrLimit, api.ErrLimit},
		{p, pass, fail, 1, none, api.ErrArg, api.ErrArg}, {p, pass, fail, 1, big, api.ErrArg, api.ErrArg}, {p, pass, pass, 1, least, api.ErrArg, api.ErrArg}, {p, pass, fail, none, 9, api.ErrArg, api.ErrArg}, {p, pass, pass, least, 9, api.ErrArg, api.ErrArg},
		{p, pass, pass, 0, 9, api.ErrClash, api.ErrArg}, {p, pass, pass, big, 9, api.ErrClash, api.ErrArg}, {p, pass, pass, 1, 9, api.ErrClash, api.ErrClash}, {p, fail, fail, api.MaxSteps, 0, api.ErrClash, api.ErrClash}, {p, pass, fail, 0, 9, api.OK, api.ErrArg}, {p, pass, fail, 1<<63 - 1, 9, api.OK, api.ErrArg}, {p, pass, fail, api.MaxSteps, api.MaxSteps, api.OK, api.OK}, {p, pass, fail, 1, 0, api.OK, api.OK},
	} {
		base, places, found, e := learn.Isolate(x.p, x.pass, x.fail, x.n, x.fuel)
		if e != x.want || e != api.OK && (base != nil || places != nil || found) {
			t.Errorf("Isolate(%v, %v, %d, %d): %v, %v, %v, error %d, not %d", x.pass, x.fail, x.n, x.fuel, base, places, found, e, x.want)
		}
		l, e := learn.Transitions(x.p, x.pass, x.fail, x.n, x.fuel)
		if e != x.also || e != api.OK && l != nil {
			t.Errorf("Transitions(%v, %v, %d, %d): %v, error %d, not %d", x.pass, x.fail, x.n, x.fuel, l, e, x.also)
		}
	}
}

// judge returns the verdict on the passing run's state with the failing one's values at some places.
func judge(t *testing.T, p api.Program, pass, fail api.Log, n, fuel int, at []api.Place) api.Verdict {
	t.Helper()
	outcome := func(l api.Log) api.Outcome {
		o := stateOf(t, p, l, l.Steps).Outcome
		if o.End == api.EnNone {
			o.End = api.EnFuel
		}
		return o
	}
	g, e := record.Given(p, pass)
	if e != api.OK {
		t.Fatal(e)
	}
	m, e := machine.Resume(p, g, mixed(stateOf(t, p, pass, n), stateOf(t, p, fail, n), at))
	if e != api.OK {
		t.Fatalf("Resume with %v: error %d", at, e)
	}
	o, e := m.Finish(fuel)
	if e != api.OK {
		t.Fatal(e)
	}
	return learn.Verdict(o, outcome(pass), outcome(fail))
}

// pick returns the elements of a list at some indexes.
func pick(l []api.Place, at []int) []api.Place {
	var out []api.Place
	for _, i := range at {
		out = append(out, l[i])
	}
	return out
}

// searched is Isolate in the words of its section.
func searched(t *testing.T, p api.Program, pass, fail api.Log, n, fuel int) (base, places []api.Place, found bool) {
	t.Helper()
	if n > pass.Steps || n > fail.Steps {
		return nil, nil, false
	}
	l, ok := learn.Differences(stateOf(t, p, pass, n), stateOf(t, p, fail, n))
	if !ok || len(l) > api.MaxItems {
		return nil, nil, false
	}
	var answers []api.Verdict
	for {
		q, e := reduce.Difference(len(l), answers)
		if e != api.OK {
			return nil, nil, false
		}
		if q.Done {
			more := slices.DeleteFunc(q.Kept, func(i int) bool { return slices.Contains(q.Pass, i) })
			return pick(l, q.Pass), pick(l, more), true
		}
		answers = append(answers, judge(t, p, pass, fail, n, fuel, pick(l, q.Ask)))
	}
}

// decides checks the promise about places that were found: P8.7.
func decides(t *testing.T, p api.Program, pass, fail api.Log, n, fuel int, base, places []api.Place) {
	t.Helper()
	verdict := func(at []api.Place) api.Verdict { return judge(t, p, pass, fail, n, fuel, at) }
	all := slices.Concat(base, places)
	if verdict(base) != api.VePass || verdict(all) != api.VeFail || len(places) == 0 {
		t.Errorf("state %d: %v does not pass, or not fail with %v", n, base, places)
	}
	if len(places) == 1 {
		return
	}
	for _, q := range places {
		less := slices.DeleteFunc(slices.Clone(all), func(x api.Place) bool { return x == q })
		if verdict(append(slices.Clone(base), q)) != api.VeUnknown || verdict(less) != api.VeUnknown {
			t.Errorf("state %d: %v can be moved from %v to %v", n, q, places, base)
		}
	}
}

// clashing returns two runs of a program that come to different ends, if it finds such.
func clashing(t *testing.T, m *maker, p api.Program) (pass, fail api.Log, found bool) {
	t.Helper()
	for range 6 {
		g, h := m.given(), m.given()
		switch m.Intn(3) {
		case 0:
			g.Picks = nil
		case 1:
			h.Picks = g.Picks
		}
		h.Clocks = g.Clocks
		pass, fail = recorded(t, p, g, 400), recorded(t, p, h, 400)
		if _, _, _, e := learn.Isolate(p, pass, fail, 0, 0); e == api.OK {
			return pass, fail, true
		}
	}
	return api.Log{}, api.Log{}, false
}

// tally counts what is found.
type tally struct{ states, wide, based, listed int }

// hold holds Isolate, at some states, and Transitions against the model.
func (x *tally) hold(t *testing.T, p api.Program, pass, fail api.Log, every, fuel int) {
	t.Helper()
	var want []api.Cause
	for n := 0; n <= min(pass.Steps, fail.Steps); n += every {
		base, places, found := isolated(t, p, pass, fail, n, fuel)
		b, q, is := searched(t, p, pass, fail, n, fuel)
		if found != is || !slices.Equal(base, b) || !slices.Equal(places, q) {
			t.Fatalf("state %d: %v, %v, %v, not %v, %v, %v", n, base, places, found, b, q, is)
		}
		if !found {
			continue
		}
		decides(t, p, pass, fail, n, fuel, base, places)
		x.states++
		x.wide += min(len(places)-1, 1)
		x.based += min(len(base), 1)
		if len(want) == 0 || !slices.Equal(want[len(want)-1].Places, places) {
			want = append(want, api.Cause{State: n, Places: places})
		}
	}
	l, e := learn.Transitions(p, pass, fail, every, fuel)
	if e != api.OK || fmt.Sprint(l) != fmt.Sprint(want) {
		t.Fatalf("Transitions(%d): %v, error %d, not %v", every, l, e, want)
	}
	x.listed += len(l)
}

// P8.4, P8.7: what Isolate and Transitions find in random runs is what their sections say.
func TestCausesAgainstModel(t *testing.T) {
	var x tally
	programs(t, 150, func(m *maker, p api.Program) {
		if pass, fail, ok := clashing(t, m, p); ok {
			x.hold(t, p, pass, fail, 1+m.Intn(12), []int{400, 400, 400, 60, 0}[m.Intn(5)])
		}
	})
	if x.states < 100 || x.based < 10 || x.listed < 30 {
		t.Error(x)
	}
}

// P8.4, P8.7: so is it where which differences are mixed in decides at random whether a run passes, fails, or does neither.
func TestRandomVerdicts(t *testing.T) {
	r := rand.New(rand.NewSource(8))
	var x tally
	for range 150 {
		vars := 2 + r.Intn(3)
		text := fmt.Sprintf("let t = new(%d); ", 1<<vars)
		for i := 1; i < 1<<vars; i++ {
			verdict := []int{0, 1, 2, 2, 2}[r.Intn(5)]
			if i == 1<<vars-1 {
				verdict = 1
			}
			text += fmt.Sprintf("t[%d] = %d; ", i, verdict)
		}
		which := "a"
		for i, name := range names("a b c d")[:vars] {
			text += fmt.Sprintf("let %s = input; ", name)
			if i > 0 {
				which += fmt.Sprintf(" + %s * %d", name, 1<<i)
			}
		}
		p := body(t, text+"t[0] = 0; let z = t["+which+"]; assert z != 1; if z { throw z; } print 1;")
		pass, fail := recorded(t, p, given(make([]int64, vars)...), 999), recorded(t, p, given(slices.Repeat([]int64{1}, vars)...), 999)
		from := 3 + 4*(1<<vars-1) + 2*vars
		for _, n := range []int{from, from + 4, from + 5 + r.Intn(4)} {
			base, places, found := isolated(t, p, pass, fail, n, 999)
			b, q, is := searched(t, p, pass, fail, n, 999)
			if found != is || !slices.Equal(base, b) || !slices.Equal(places, q) {
				t.Fatalf("%s, state %d: %v, %v, %v, not %v, %v, %v", text, n, base, places, found, b, q, is)
			}
			if found {
				decides(t, p, pass, fail, n, 999, base, places)
				x.states++
				x.wide += min(len(places)-1, 1)
				x.based += min(len(base), 1)
			}
		}
	}
	if x.states < 300 || x.wide < 80 || x.based < 80 {
		t.Error(x)
	}
}

// P8.7: with none of the differences mixed in, the passing run goes on as it did.
func TestPassingGoesOn(t *testing.T) {
	states := 0
	programs(t, 80, func(m *maker, p api.Program) {
		pass := recorded(t, p, m.given(), 400)
		g, e := record.Given(p, pass)
		if e != api.OK {
			t.Fatal(e)
		}
		last := stateOf(t, p, pass, pass.Steps)
		for range 10 {
			n := m.Intn(pass.Steps + 1)
			s := stateOf(t, p, pass, n)
			if s.Outcome.End != api.EnNone {
				continue
			}
			mixed, e := learn.Mix(s, s, nil)
			if e != api.OK {
				t.Fatal(e)
			}
			r, e := machine.Resume(p, g, mixed)
			if e != api.OK {
				t.Fatal(e)
			}
			for range pass.Steps - n {
				r.Step()
			}
			if !machine.Same(r.State(), last) {
				t.Errorf("from state %d on it comes to another end", n)
			}
			states++
		}
	})
	if states < 500 {
		t.Error(states)
	}
}

// P8.4: the transitions of a run whose failure moves from the input to a register, to a cell, and to another frame.
func TestTransitions(t *testing.T) {
	p := parsed(t, "fun f(n) { assert n < 9; return n; } fun main() { let a = input; let o = new(1); o[0] = a * 2; a = 0; print f(o[0]); }")
	pass, fail := recorded(t, p, given(1), 200), recorded(t, p, given(5), 200)
	// 0 OpInput, 1 OpMove a, 2 OpConst, 3 OpNew, 4 OpMove o, 5 OpMove o, 6 OpConst, 7 OpMove a, 8 OpConst, 9 OpBinary, 10 OpStore, 11 OpConst, 12 OpMove a, 13 OpMove o, 14 OpConst, 15 OpLoad, 16 OpCall, 17 OpMove n, 18 OpConst, 19 OpBinary, 20 OpAssert
	cause := func(n int, q api.Place) api.Cause { return api.Cause{State: n, Places: []api.Place{q}} }
	all := []api.Cause{cause(1, reg(0, 2)), cause(2, reg(0, 0)), cause(8, reg(0, 4)), cause(11, cellOf(0, 0)), cause(16, reg(0, 2)), cause(17, reg(1, 0)), cause(18, reg(1, 1))}
	for every, want := range map[int][]api.Cause{
		1: all, 5: {cause(5, reg(0, 0)), cause(10, reg(0, 4)), cause(15, cellOf(0, 0)), cause(20, reg(1, 1))}, 4: {cause(4, reg(0, 0)), cause(8, reg(0, 4)), cause(12, cellOf(0, 0)), cause(16, reg(0, 2)), cause(20, reg(1, 1))},
		21: nil, 20: {cause(20, reg(1, 1))}, 100: nil, api.MaxSteps: nil,
	} {
		if l, e := learn.Transitions(p, pass, fail, every, 200); e != api.OK || fmt.Sprint(l) != fmt.Sprint(want) {
			t.Errorf("every %d: %v, error %d, not %v", every, l, e, want)
		}
	}
}

// filled returns a program that fills so many cells with its input, sees to it that nothing else depends on that, and goes on then; and how many steps it has taken there.
func filled(t *testing.T, cells int, then string) (p api.Program, steps int) {
	t.Helper()
	p = body(t, fmt.Sprintf("let x = input; let i = 0; let o = new(%d); while i < %d { o[i] = x; i = i + 1; } o[%d] = 5; x = 0; i = 0; %s", cells+1, cells, cells, then))
	return p, 19 + 13*cells
}

// isolatedCells returns what Isolate says of the state in which so many cells are 0 or 1, and nothing else differs.
func isolatedCells(t *testing.T, cells int, then string) (base, places []api.Place, found bool) {
	t.Helper()
	p, n := filled(t, cells, then)
	pass, fail := recorded(t, p, given(0), 20000), recorded(t, p, given(1), 20000)
	if l, ok := learn.Differences(stateOf(t, p, pass, n), stateOf(t, p, fail, n)); !ok || len(l) != cells || l[0].Kind != api.PlCell {
		t.Fatal(len(l), ok)
	}
	return isolated(t, p, pass, fail, n, 20000)
}

// P8.4: as many differences as MaxItems, and one more.
func TestManyDifferences(t *testing.T) {
	for cells, want := range map[int]bool{api.MaxItems - 1: true, api.MaxItems: true, api.MaxItems + 1: false} {
		_, places, found := isolatedCells(t, cells, "assert o[77] == 0;")
		if found != want || found && !slices.Equal(places, []api.Place{cellOf(0, 77)}) {
			t.Errorf("%d cells: %v, %v", cells, places, found)
		}
	}
}

// P8.4: as many questions as MaxAsks, and more. The run fails if all cells are 1, and passes if only some of the last ones with odd numbers are; so the search moves them one by one, and asks much about each.
func TestManyQuestions(t *testing.T) {
	for _, x := range []struct {
		cells, most int
		want        bool
	}{{132, 38, true}, {124, 47, false}} { // 4096 questions; more than that
		t.Run(fmt.Sprint(x.cells, x.most), func(t *testing.T) {
			t.Parallel()
			base, places, found := isolatedCells(t, x.cells, fmt.Sprintf(`let s = 0; let bad = 0; let last = 0;
				while i < %d { s = s + o[i]; if i %% 2 == 0 { bad = bad | o[i]; } else { bad = bad | (o[i] < last); last = o[i]; } i = i + 1; }
				assert s < %d; if bad | (%d < s) { throw 7; } print 1;`, x.cells, x.cells, x.most))
			if found != x.want || found && (len(base) != x.most || len(places) != x.cells-x.most) {
				t.Errorf("%v, %d, %d", found, len(base), len(places))
			}
		})
	}
}

package learn_test

import (
	"slices"
	"testing"

	"sleuth/api"
	"sleuth/lang"
	"sleuth/learn"
	"sleuth/record"
	"sleuth/trace"
)

// samples returns what Samples says, without an error.
func samples(t *testing.T, p api.Program, n int, fuel int, l ...api.Given) ([]string, [][]int64) {
	t.Helper()
	names, rows, e := learn.Samples(p, n, l, fuel)
	if e != api.OK {
		t.Fatalf("Samples(%s, %d): error %d", written(t, p), n, e)
	}
	return names, rows
}

// P8.3: samples of several runs of programs with loops, functions, closures and threads.
func TestSamples(t *testing.T) {
	loop := body(t, "let i = input; let s = 0; while i > 0 { s = s + i; i = i - 1; } print s;")
	calls := parsed(t, "fun f(n) { if n == 0 { return 0; } return n + f(n - 1); } fun main() { let x = input; print f(x); }")
	closed := body(t, "let a = 1; let b = 2; let g = fn (c) { let d = b + c; return d; }; a = g.(10); b = 5; a = g.(20);")
	threads := parsed(t, "fun f(o, n) { o[0] = n; print o[0]; } fun main() { let o = new(1); let t = spawn f(o, 1); let u = spawn f(o, 2); join t; join u; print o[0]; }")
	fails := body(t, "let x = input; try { print 1 / x; x = input; throw 3; } catch z { print z; assert x; print 9; }")
	for _, c := range []struct {
		p     api.Program
		n     int
		fuel  int
		given []api.Given
		names string
		rows  [][]int64
	}{
		{loop, 2, 200, []api.Given{given(3)}, "i s", table("3 0, 2 3, 1 5, 0 6")}, // a loop begins once more than it goes on
		{loop, 3, 200, []api.Given{given(3), given(0), given(1)}, "i s", table("3 0, 2 3, 1 5, 1 0")},
		{loop, 0, 200, []api.Given{given(3)}, "", nil}, // no names
		{loop, 1, 200, []api.Given{given(-7), given(4)}, "i", table("-7,4")},
		{loop, 5, 200, nil, "i s", nil}, // no runs
		{loop, 5, 200, []api.Given{given()}, "i s", nil}, {loop, 0, 200, []api.Given{given()}, "", nil},
		{loop, 2, 7, []api.Given{given(3)}, "i s", table("3 0")}, {loop, 2, 4, []api.Given{given(3)}, "i s", nil}, {loop, 2, 5, []api.Given{given(3)}, "i s", table("3 0")}, {loop, 2, 0, []api.Given{given(3)}, "i s", nil},
		{loop, 1, 200, []api.Given{given(top), given(-top)}, "i", table("2147483647,-2147483647")}, {loop, 1, 200, []api.Given{given(top), given(top + 1)}, "", nil}, {loop, 5, 200, []api.Given{given(-top - 1)}, "s", table("0")},
		{calls, 0, 200, []api.Given{given(2), given(0)}, "n", table("2,1,0,0")}, {calls, 2, 200, []api.Given{given(2)}, "n", table("2,1")}, {calls, 4, 200, []api.Given{given(2)}, "x", table("2")},
		{closed, 3, 200, []api.Given{given()}, "b c", table("2 10, 2 20")}, {closed, 4, 200, []api.Given{given()}, "b c d", table("2 10 12, 2 20 22")}, // a closure holds what b was
		{closed, 5, 200, []api.Given{given()}, "a b", table("1 2")}, {closed, 7, 200, []api.Given{given()}, "a b", table("12 5")}, // g is no number
		{threads, 0, 200, []api.Given{{}}, "n", table("1,2")}, {threads, 1, 200, []api.Given{{Picks: []uint8{0, 0, 0, 0, 0, 0, 0, 0, 0, 0, 2, 2, 2, 2, 2, 2, 2}}}, "n", table("2,1")}, // o is no number
		{threads, 7, 200, []api.Given{{}}, "t u", table("1 2")},
		{fails, 2, 200, []api.Given{given(0, 1), given(2)}, "x", table("0,2")}, {fails, 3, 200, []api.Given{given(0, 1), given(2), given(2, 5)}, "x", table("2,2")},
		{fails, 6, 200, []api.Given{given(0, 1), given(2), given(2, 5), given(2, 0)}, "x z", table("5 3, 0 3")}, {fails, 7, 200, []api.Given{given(2, 5), given(2, 0)}, "x z", table("5 3")},
		{body(t, "let x = 1; print input;"), 1, 200, []api.Given{given(), given(4)}, "x", table("1,1")}, // a step that faults begins it, too
		{body(t, "let x = 1; lock x; x = 2;"), 1, 200, []api.Given{given()}, "x", table("1")}, {body(t, "let x = new(1); lock x; lock x;"), 2, 200, []api.Given{given()}, "", nil},
		{body(t, "let x = 1; let y = new(1); if input { y = 3; } print x;"), 4, 200, []api.Given{given(1)}, "x y", table("1 3")}, {body(t, "let x = 1; let y = new(1); if input { y = 3; } print x;"), 4, 200, []api.Given{given(1), given(0)}, "x", table("1,1")},
		{body(t, "let x = 1; x = x + (x + (x + x)); x = x + x;"), 1, 200, []api.Given{given()}, "x", table("1")},
	} {
		l, rows := samples(t, c.p, c.n, c.fuel, c.given...)
		if !slices.Equal(l, names(c.names)) || !sameRows(rows, c.rows) {
			t.Errorf("%s at %d: %v, %v, not %s, %v", written(t, c.p), c.n, l, rows, c.names, c.rows)
		}
	}
}

// P8.3: the errors of Samples and of Learn, and which one is told first.
func TestSamplesErrors(t *testing.T) {
	p := body(t, "let a = input; print a;")
	many := make([]api.Given, api.MaxTests+1)
	long := api.Given{Inputs: make([]int64, api.MaxGiven+1)}
	for _, x := range []struct {
		p     api.Program
		n     int
		given []api.Given
		fuel  int
		want  api.Errno
	}{
		{p, 1, nil, -1, api.ErrArg}, {p, 1, nil, api.MaxSteps + 1, api.ErrArg}, {p, 9, many, least, api.ErrArg}, {brokenPrograms(t)[api.ErrTwice], 0, nil, -1, api.ErrArg},
		{p, 2, nil, 9, api.ErrNone}, {p, -1, many, 9, api.ErrNone}, {brokenPrograms(t)[api.ErrTwice], 0, many, 9, api.ErrTwice}, {brokenPrograms(t)[api.ErrLimit], 0, nil, 9, api.ErrLimit},
		{p, 1, many, 9, api.ErrLimit}, {p, 0, many, 9, api.ErrLimit}, {p, 1, many[:api.MaxTests], 9, api.OK},
		{p, 1, []api.Given{given(1), long}, 9, api.ErrLimit}, {p, 0, []api.Given{long}, 9, api.ErrLimit}, {p, 1, []api.Given{{Clocks: long.Inputs}}, 9, api.ErrLimit}, {p, 1, []api.Given{{Picks: make([]uint8, api.MaxSteps+1)}}, 0, api.ErrLimit},
		{p, 1, []api.Given{{Inputs: long.Inputs[1:], Clocks: long.Inputs[1:], Picks: make([]uint8, api.MaxSteps)}}, api.MaxSteps, api.OK},
	} {
		l, rows, e := learn.Samples(x.p, x.n, x.given, x.fuel)
		if e != x.want || e != api.OK && (l != nil || rows != nil) {
			t.Errorf("Samples(%d, %d given, %d): %v, %v, error %d, not %d", x.n, len(x.given), x.fuel, l, rows, e, x.want)
		}
		c, e := learn.Learn(x.p, x.n, x.given, x.fuel, 1)
		if e != x.want || e != api.OK && !sameContract(c, api.Contract{}) {
			t.Errorf("Learn(%d, %d given, %d): %v, error %d, not %d", x.n, len(x.given), x.fuel, c, e, x.want)
		}
	}
}

// run is a run, and where a statement begins in it.
type run struct {
	*trace.Trace
	log     api.Log
	outcome api.Outcome
}

func ran(t *testing.T, p api.Program, g api.Given, fuel int) run {
	t.Helper()
	l, o, e := record.Record(p, g, fuel)
	if e != api.OK {
		t.Fatal(e)
	}
	x, e := trace.Of(p, l)
	if e != api.OK {
		t.Fatal(e)
	}
	return run{x, l, o}
}

// begins returns the steps at which a statement begins.
func (r run) begins(t *testing.T, line int) []int {
	t.Helper()
	var steps []int
	lowest := 1 << 30
	for n := range r.Len() {
		if v, _ := r.Event(n); v.Line == line {
			lowest = min(lowest, v.PC)
		}
	}
	for n := range r.Len() {
		if v, _ := r.Event(n); v.Line == line && v.PC == lowest {
			steps = append(steps, n)
		}
	}
	// The first step of a statement is at its least address, unless a jump leads into its middle, which there is not.
	if len(steps) != r.Times(line) {
		t.Fatalf("statement %d begins %d times, not %v", line, r.Times(line), steps)
	}
	return steps
}

// values returns the values of some registers of the frame of a step, ahead of the step.
func (r run) values(t *testing.T, step int, registers []int) []api.Value {
	t.Helper()
	v, _ := r.Event(step)
	var l []api.Value
	for _, at := range registers {
		x, ok := r.Value(step, reg(v.Frame, at))
		if !ok {
			t.Fatalf("register %d of frame %d has no value ahead of step %d", at, v.Frame, step)
		}
		l = append(l, x)
	}
	return l
}

func isPlain(v api.Value) bool { return v.Kind == api.VaInt && -top <= v.N && v.N <= top }

// P8.3: the samples of random runs are those that traces tell.
func TestSamplesAgainstTraces(t *testing.T) {
	rows, odd, none := 0, 0, 0
	programs(t, 60, func(m *maker, p api.Program) {
		l := make([]api.Given, m.Intn(4))
		var runs []run
		fuel := 1 + m.Intn(700)
		for i := range l {
			l[i] = m.given()
			runs = append(runs, ran(t, p, l[i], fuel))
		}
		for n := range lang.Count(p) {
			all, registers := watched(t, p, n)
			var values [][]api.Value
			for _, r := range runs {
				for _, step := range r.begins(t, n) {
					values = append(values, r.values(t, step, registers))
				}
			}
			var want []string
			wanted := make([][]int64, len(values))
			for i, name := range all {
				if slices.ContainsFunc(values, func(v []api.Value) bool { return !isPlain(v[i]) }) {
					odd++
					continue
				}
				want = append(want, name)
				for j, v := range values {
					wanted[j] = append(wanted[j], v[i].N)
				}
			}
			if len(want) == 0 {
				wanted = nil
				none++
			}
			got, table := samples(t, p, n, fuel, l...)
			if !slices.Equal(got, want) || !sameRows(table, wanted) {
				t.Errorf("statement %d: %v, %v, not %v, %v", n, got, table, want, wanted)
			}
			rows += len(table)
		}
	})
	if rows < 1500 || odd < 400 || none < 50 {
		t.Error(rows, odd, none)
	}
}

// P8.3: Learn returns the claims of a miner about the samples.
func TestLearn(t *testing.T) {
	p := body(t, "let i = input; let s = 0; while i > 0 { s = s + i; i = i - 1; } print s;")
	for _, x := range []struct {
		n, support int
		want       api.Contract
	}{
		{5, 2, api.Contract{At: 5, Names: names("i s"), Claims: claims("a == 0, b >= 0, b <= 6, b in 0 6")}}, {5, 3, api.Contract{At: 5, Names: names("i s")}}, {5, least, api.Contract{At: 5, Names: names("i s"), Claims: claims("a == 0, b >= 0, b <= 6, b in 0 6")}},
		{0, 1, api.Contract{At: 0}}, {4, 1, api.Contract{At: 4, Names: names("i s"), Claims: claims("a >= 1, a <= 3, a in 1 2 3, b >= 3, b <= 6, b in 3 5 6")}},
	} {
		if c, e := learn.Learn(p, x.n, []api.Given{given(3), given(0)}, 200, x.support); e != api.OK || !sameContract(c, x.want) {
			t.Errorf("statement %d: %v, error %d, not %v", x.n, c, e, x.want)
		}
	}
	if c, e := learn.Learn(p, 5, nil, 200, 0); e != api.OK || !sameContract(c, api.Contract{At: 5, Names: names("i s")}) {
		t.Error(c, e)
	}
}

// P8.3, P8.6: contracts of random programs have what a miner says of the samples, and the runs from which they were learned keep them.
func TestLearnedIsKept(t *testing.T) {
	kept := 0
	programs(t, 70, func(m *maker, p api.Program) {
		l := make([]api.Given, 1+m.Intn(3))
		for i := range l {
			l[i] = m.given()
		}
		for n := range lang.Count(p) {
			support := m.Intn(4)
			c, e := learn.Learn(p, n, l, 400, support)
			if e != api.OK {
				t.Fatal(e)
			}
			names, rows := samples(t, p, n, 400, l...)
			var want []api.Invariant
			if len(names) > 0 {
				want = miner(t, len(names), rows).Claims(support)
			}
			if !sameContract(c, api.Contract{At: n, Names: names, Claims: want}) {
				t.Errorf("statement %d: %v, not %v of %v", n, c, want, names)
			}
			if e := learn.CheckContract(p, c); e != api.OK {
				t.Errorf("CheckContract(%v): error %d", c, e)
			}
			for _, g := range l {
				b, broken, _, e := learn.Keeps(p, []api.Contract{c}, g, 400)
				if e != api.OK || broken || b != (api.Breach{}) {
					t.Errorf("Keeps(%v): %v, %v, error %d", c, b, broken, e)
				}
			}
			kept += len(c.Claims)
		}
	})
	if kept < 2500 {
		t.Error(kept)
	}
}

package trace_test

import (
	"slices"
	"testing"

	"sleuth/api"
	"sleuth/record"
	"sleuth/trace"
)

// P4.5: slices of all kinds, step by step.
func TestSlice(t *testing.T) {
	const (
		heap   = "fun main() { let o = new(1); let i = 0; o[i] = 7; print o[i]; }"
		choice = "fun main() { let a = 1; let b = 2; if a { b = 3; } if b { print 5; } }"
		apply  = "fun main() { let g = fn () { return 4; }; print g.(); }"
		joined = "fun f(a) { return a; } fun main() { let t = spawn f(8); join t; print 1; }"
		locked = "fun main() { let o = new(0); lock o; unlock o; }"
		thrown = "fun main() { try { if 1 { throw 6; } } catch x { print 3; } }"
	)
	for _, x := range []struct {
		text                       string
		step                       int
		thin, data, full, relevant []int // those of a kind beside those of the kind before
	}{
		{example, 11, []int{0, 1, 6, 7, 8, 9, 10, 11}, nil, []int{2, 3, 4, 5}, nil},
		{example, 0, []int{0}, nil, nil, nil},
		{example, 13, []int{12, 13}, nil, nil, nil},
		// the cell by values, and which cell by addresses
		{heap, 12, []int{7, 8, 11, 12}, []int{0, 1, 2, 3, 4, 5, 6, 9, 10}, nil, nil},
		// the test of the step itself counts in all kinds, those of others do not
		{choice, 5, []int{0, 1, 4, 5}, nil, nil, nil},
		{choice, 9, []int{6, 7, 8, 9}, nil, []int{0, 1, 4, 5}, nil},
		{choice, 11, []int{10, 11}, nil, []int{0, 1, 4, 5, 6, 7, 8, 9}, nil},
		{apply, 3, []int{0, 1, 2, 3}, nil, nil, nil},
		{apply, 6, []int{4, 5, 6}, nil, []int{0, 1, 2, 3}, nil},
		// what only lets a step happen does not count
		{joined, 6, []int{6}, []int{0, 1, 2, 3}, nil, nil},
		{joined, 8, []int{7, 8}, nil, nil, nil},
		{locked, 6, []int{6}, []int{0, 1, 2, 5}, nil, nil},
		// what is thrown decides, and what it is decided by
		{thrown, 6, []int{5, 6}, nil, []int{1, 2, 3, 4}, nil},
	} {
		r := followed(t, x.text, "0*4 1*2", api.Given{Inputs: []int64{5}})
		var want []int
		for k, more := range [][]int{x.thin, x.data, x.full, x.relevant} {
			want = slices.Sorted(slices.Values(slices.Concat(want, more)))
			if l := r.slice(t, x.step, trace.Kind(k)); !slices.Equal(l, want) {
				t.Errorf("the slice of kind %d from %d of %s: %v, not %v", k, x.step, x.text, l, want)
			}
		}
	}
}

// branches returns the statements of the OpBranch steps of a slice.
func (r run) branches(t *testing.T, steps []int) []int {
	t.Helper()
	var l []int
	for _, n := range steps {
		if r.op(t, n) == api.OpBranch {
			l = append(l, n)
		}
	}
	return r.Statements(l)
}

// P4.5: which decisions might have written what a print depends on.
func TestSliceRelevant(t *testing.T) {
	const call = "fun f(o, a) { if a { o[0] = 2; } } "
	for _, x := range []struct {
		text, picks string
		want        []int // the statements of the OpBranch steps that are in the relevant slice, and not in the full one
	}{
		{"fun main() { let a = 0; let b = 1; if a { b = 2; } print b; }", "", []int{2}},
		{"fun main() { let a = 1; let b = 1; if a { } else { b = 2; } print b; }", "", []int{2}},
		{"fun main() { let a = 1; let b = 1; if a { } else { a = 2; } print b; }", "", nil},
		{"fun main() { let a = 0; let b = 1; if a { } else { } print b; }", "", nil},
		{"fun main() { let a = 1; let b = 1; if a { b = 2; b = 3; } print b; }", "", nil}, // it did write it
		{"fun main() { let a = 1; let b = 1; if a { b = 2; } b = 3; print b; }", "", nil}, // ahead of From
		{"fun main() { let a = 0; let b = 1; if a { b = 2; } b = 3; print b; }", "", nil},
		{"fun main() { let a = 0; let b = 1; b = 3; if a { b = 2; } print b; if a { b = 4; } }", "", []int{3}}, // not behind the step
		{"fun main() { let a = 0; if a { let b = 2; } print b; }", "", []int{1}},                               // nothing wrote it
		{"fun main() { let a = 0; if a { try { } catch b { } } print b; }", "", []int{1}},
		{"fun main() { let a = 0; if a { try { let b = 1; } catch c { } } print b; }", "", []int{1}},
		{"fun main() { let a = 0; if a { try { } catch c { let b = 1; } } print b; }", "", []int{1}},
		{"fun main() { let a = 0; let b = 1; if a { while a { if a { } else { b = 2; } } } print b; }", "", []int{2}},
		{"fun main() { let a = 0; let b = 1; if a { let g = fn () { b = 2; }; g.(); } print b; }", "", nil},
		{"fun main() { let a = 0; let b = 1; while a { b = 2; } print b; }", "", []int{2}},
		{"fun main() { let a = 2; let b = 1; while a { a = a - 1; if a { b = 2; } } print b; }", "", []int{2, 4}}, // the last round, and the end
		{"fun main() { let a = 1; let b = 1; while a { a = 0; b = 2; } print b; }", "", []int{2}},
		{"fun main() { let a = 1; let b = 1; while a { if a { print b; return 0; } b = 2; } }", "", nil}, // a loop that went on
		{"fun main() { let a = 0; let b = 1; let g = fn () { if a { b = 2; } print b; }; g.(); }", "", []int{3}},
		{"fun main() { let a = 0; let b = 1; let g = fn () { if a { b = 2; } }; g.(); print b; }", "", nil}, // the closure has a b of its own
		// cells: any store, in any frame, but of the same thread
		{"fun main() { let a = 0; let o = new(1); if a { o[0] = 1; } print o[0]; }", "", []int{2}},
		{"fun main() { let a = 0; let o = new(1); let q = new(1); if a { q[5] = 1; } print o[0]; }", "", []int{3}},
		{"fun main() { let a = 0; let o = new(1); if a { o = new(1); } print len(o); }", "", []int{2}},
		{"fun main() { let a = 0; let o = new(1); if a { o[0] = 1; } print len(o); }", "", nil}, // a length is no cell
		{"fun main() { let a = 0; let o = new(1); if a { o[0] = 1; } o[0] = 3; print o[0]; }", "", nil},
		{"fun main() { let a = 0; let o = new(1); if a { fn () { o[0] = 1; }; } print o[0]; }", "", nil},
		{call + "fun main() { let o = new(1); f(o, 0); print o[0]; }", "", []int{0}},
		{call + "fun main() { let o = new(1); let t = spawn f(o, 0); join t; print o[0]; }", "0*9 1*9", nil},
		{"fun main() { let a = 0; let o = new(1); let b = 3; let g = fn () { return b; }; if a { o[0] = 1; } print g.(); }", "", []int{5}}, // a closure's cells
		// registers of one name: each frame has its own
		{"fun f(a, b) { if a { b = 2; } return b; } fun main() { f(0, 1); print f(1, 5) + f(0, 6); }", "", []int{0}},
		{"fun f(a, b) { if a { b = 2; } return 7; } fun main() { let b = 1; f(0, b); print b; }", "", nil},
	} {
		r := followed(t, x.text, x.picks, api.Given{})
		n := r.at(t, 0)
		full, relevant := r.slice(t, n, trace.Full), r.slice(t, n, trace.Relevant)
		more := slices.DeleteFunc(relevant, func(s int) bool { return slices.Contains(full, s) })
		if l := r.branches(t, more); !slices.Equal(l, x.want) {
			t.Errorf("%s: %v, not %v", x.text, l, x.want)
		}
	}
}

// P4.5: steps and kinds that there are not.
func TestSliceNone(t *testing.T) {
	r := ran(t, example, 5)
	for _, x := range []struct {
		step int
		kind trace.Kind
		want api.Errno
	}{
		{0, trace.Thin, api.OK}, {13, trace.Relevant, api.OK},
		{-1, trace.Thin, api.ErrNone}, {14, trace.Full, api.ErrNone}, {1<<63 - 1, trace.Data, api.ErrNone}, {-1 << 63, trace.Relevant, api.ErrNone},
		{14, 4, api.ErrNone}, {-1, 255, api.ErrNone}, {0, 4, api.ErrArg}, {13, 255, api.ErrArg},
	} {
		if l, e := r.Slice(x.step, x.kind); e != x.want || (len(l) > 0) != (e == api.OK) {
			t.Errorf("Slice(%d, %d): error %d, %v", x.step, x.kind, e, l)
		}
	}
}

// P4.5: slices of a long run, in which each decision might have written what each round reads.
func TestSliceLong(t *testing.T) {
	p := parsed(t, "fun main() { let a = 0; let x = 1; let y = 0; while 1 { if a { x = 2; } y = y + x; } }")
	l, _, e := record.Record(p, api.Given{}, api.MaxSteps)
	if e != api.OK {
		t.Fatalf("Record: error %d", e)
	}
	r := run{Trace: traced(t, p, l), program: p}
	// a round has 9 steps: 6 to 14 is the first one, which sets y at 13
	const rounds = (api.MaxSteps - 6) / 9
	n := 6 + 9*(rounds-1) + 7
	thin, full, relevant := r.slice(t, n, trace.Thin), r.slice(t, n, trace.Full), r.slice(t, n, trace.Relevant)
	if len(thin) != 4+4*rounds || len(full) != 4+6*rounds || len(relevant) != 6+8*rounds {
		t.Errorf("%d, %d and %d steps in %d rounds", len(thin), len(full), len(relevant), rounds)
	}
	if rows, e := r.Rerun(relevant); e != api.OK || !slices.Equal(rows[len(rows)-1], []api.Write{{Place: reg(0, 2), Value: num(rounds)}}) {
		t.Errorf("Rerun: error %d", e)
	}
}

// P4.5: the statements of steps.
func TestStatements(t *testing.T) {
	r := ran(t, example, 5)
	for _, x := range []struct{ steps, want []int }{
		{nil, nil},
		{[]int{11}, []int{4}},
		{[]int{0, 1, 6, 7, 8, 9, 10, 11}, []int{0, 3, 4}},
		{[]int{12, 13}, nil},
		{[]int{13, 11, 3, 11, 0, 2}, []int{0, 1, 4}},
		{[]int{-1, 14, 99, -1 << 63, 1<<63 - 1, 9}, []int{3}},
	} {
		if l := r.Statements(x.steps); !slices.Equal(l, x.want) {
			t.Errorf("Statements(%v): %v, not %v", x.steps, l, x.want)
		}
	}
}

// P4.4: which statements have steps, and how often each of them was begun.
func TestLines(t *testing.T) {
	const (
		loop   = "fun main() { let a = 2; while a { a = a - 1; } print a; }"
		tried  = "fun main() { let i = 0; while i < 3 { i = i + 1; try { if i == 2 { throw 5; } } catch x { print x; } } }"
		called = "fun f(a) { print a; } fun main() { f(1); let g = fn (b) { f(b); return 1; }; g.(2); g.(g.(3)); if 0 { print 4; } }"
		fault  = "fun main() { let o = new(1); o[1] = 2; print 3; }"
		nested = "fun main() { if 1 { if 1 { while 0 { } } else { } } print 9; }"
		spawn  = "fun f(a) { print a; } fun main() { spawn f(1); join spawn f(2); }"
	)
	for _, x := range []struct {
		text  string
		lines []int
		times []int // of the statements from 0 on
	}{
		{"fun main() { }", nil, nil},
		{example, []int{0, 1, 2, 3, 4}, []int{1, 1, 1, 1, 1}},
		{loop, []int{0, 1, 2, 3}, []int{1, 3, 2, 1}}, // the condition is the beginning of a loop
		{tried, []int{0, 1, 2, 3, 4, 5, 6}, []int{1, 4, 3, 3, 3, 1, 1}},
		{called, []int{0, 1, 2, 3, 4, 5, 6, 7}, []int{4, 1, 1, 3, 3, 1, 1, 1}},
		{fault, []int{0, 1}, []int{1, 1}},
		{nested, []int{0, 1, 2, 3}, []int{1, 1, 1, 1}},
		{spawn, []int{0, 1, 2}, []int{2, 1, 1}},
	} {
		r := ran(t, x.text, 5)
		if l := r.Lines(); !slices.Equal(l, x.lines) {
			t.Errorf("%s: Lines: %v, not %v", x.text, l, x.lines)
		}
		for line, want := range append(x.times, 0, 0) {
			if n := r.Times(line); n != want {
				t.Errorf("%s: Times(%d): %d, not %d", x.text, line, n, want)
			}
		}
		for _, line := range []int{-1, -2, 1 << 62, -1 << 63} {
			if n := r.Times(line); n != 0 {
				t.Errorf("%s: Times(%d): %d", x.text, line, n)
			}
		}
	}
}

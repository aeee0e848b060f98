package trace_test

import (
	"slices"
	"testing"

	"sleuth/api"
	"sleuth/trace"
)

// fed returns the reads that feed a write, as a text.
func (r run) fed(t *testing.T, n int, q api.Place) string {
	t.Helper()
	l, e := r.Feeds(n, q)
	if e != api.OK {
		t.Fatalf("Feeds(%d, %s): error %d", n, shownPlace(q), e)
	}
	return shownReads(l)
}

// P4.3: which reads feed what each instruction writes.
func TestFeeds(t *testing.T) {
	const (
		heap   = "fun main() { let o = new(2); o[1] = len(o); print o[1]; }"
		apply  = "fun main() { let x = 5; let y = 4; let g = fn (a) { let z = a; return z + x + y; }; print g.(6); }"
		spawn  = "fun f(a) { return a; } fun main() { let t = spawn f(8); join t; lock new(0); }"
		given  = "fun main() { print input + -clock; }"
		throws = "fun f(a, b) { throw a; } fun main() { try { f(9, 8); } catch x { } }"
	)
	for _, x := range []struct {
		text  string
		step  int
		place api.Place
		want  string
	}{
		{heap, 0, reg(0, 1), ""},
		{heap, 1, placeOf(api.PlLen, 0), "r0.1=2v0"},
		{heap, 1, cellOf(0, 0), ""},
		{heap, 1, cellOf(0, 1), ""},
		{heap, 1, reg(0, 1), ""},
		{heap, 2, reg(0, 0), "r0.1=&0v1"},
		{heap, 6, reg(0, 3), "n0=2v1"},
		{heap, 7, cellOf(0, 1), "r0.3=2v6"},
		{heap, 10, reg(0, 1), "c0.1=2v7"},
		{heap, 11, placeOf(api.PlOut, 0), "r0.1=2v10"},
		{heap, 13, placeOf(api.PlThread, 0), "r0.1=0v12"},
		{apply, 6, placeOf(api.PlLen, 0), ""},
		{apply, 6, cellOf(0, 0), "r0.3=5v4"},
		{apply, 6, cellOf(0, 1), "r0.4=4v5"},
		{apply, 6, reg(0, 3), ""},
		{apply, 10, reg(1, 0), "r0.4=6v9"},
		{apply, 10, reg(1, 1), "c0.0=5v6"},
		{apply, 10, reg(1, 2), "c0.1=4v6"},
		{apply, 10, reg(1, 3), ""},
		{apply, 10, reg(1, 5), ""},
		{spawn, 1, reg(1, 0), "r0.1=8v0"},
		{spawn, 1, reg(1, 1), ""},
		{spawn, 1, placeOf(api.PlThread, 1), ""},
		{spawn, 1, reg(0, 1), ""},
		{spawn, 5, placeOf(api.PlThread, 1), "r1.1=8v4"},
		{spawn, 9, placeOf(api.PlLock, 0), ""},
		{given, 0, reg(0, 0), "g0.0=5v-1"},
		{given, 1, reg(0, 1), "g1.0=7v-1"},
		{given, 2, reg(0, 1), "r0.1=7v1"},
		{given, 3, reg(0, 0), "r0.0=5v0 r0.1=-7v2"},
		{throws, 3, reg(1, 0), "r0.1=9v1"},
		{throws, 3, reg(1, 1), "r0.2=8v2"},
		{throws, 3, reg(1, 2), ""},
		{throws, 5, reg(0, 0), "r1.2=9v4"},
	} {
		r := followed(t, x.text, "0*4 1*2", api.Given{Inputs: []int64{5}, Clocks: []int64{7}})
		if s := r.fed(t, x.step, x.place); s != x.want {
			t.Errorf("step %d of %s: %s is fed by %q, not %q", x.step, x.text, shownPlace(x.place), s, x.want)
		}
	}
}

// P4.3: steps that there are not, and places that a step does not write.
func TestFeedsNone(t *testing.T) {
	r := ran(t, "fun main() { print 1; print 1 / 0; }")
	for _, x := range []struct {
		step  int
		place api.Place
	}{
		{-1, reg(0, 0)}, {r.Len(), reg(0, 0)}, {1 << 62, reg(0, 0)},
		{0, reg(0, 1)}, {0, reg(1, 0)}, {0, api.Place{}}, {0, placeOf(api.PlOut, 0)},
		{1, reg(0, 0)}, {1, placeOf(api.PlOut, 1)}, {1, api.Place{Kind: 99}},
		{4, reg(0, 0)}, // the step that faults
	} {
		if l, e := r.Feeds(x.step, x.place); e != api.ErrNone || len(l) > 0 {
			t.Errorf("Feeds(%d, %v): error %d, %v", x.step, x.place, e, l)
		}
	}
}

// P4.3: where values come from.
func TestOrigin(t *testing.T) {
	const (
		around = "fun f(o, x) { o[0] = x; return o[0]; } fun main() { let o = new(1); let g = fn (a) { return -a; }; let r = f(o, g.(7)); print r; }"
		caught = "fun f(a) { throw a; } fun main() { let t = 0; try { f(3 + 4); } catch x { t = !x; } print t; }"
		length = "fun main() { let o = new(input); print len(o); }"
		thread = "fun f(a) { print a; } fun main() { let t = spawn f(8); join t; print t; }"
	)
	out, last := placeOf(api.PlOut, 0), api.Place{Kind: api.PlOut, A: 1}
	for _, x := range []struct {
		text  string
		state int // -1 is the last one
		place api.Place
		want  []int
	}{
		{example, 12, out, []int{11, 10, 9, 8}},
		{example, 14, out, []int{11, 10, 9, 8}},
		{example, 7, reg(0, 2), []int{6, 1, 0}}, // an input is no step
		{example, 9, reg(0, 0), []int{1, 0}},
		{example, 10, reg(0, 0), []int{9, 8}},
		{around, -1, out, []int{23, 22, 21, 20, 19, 16, 15, 12, 11, 10, 9, 8, 7}},
		{around, -1, reg(0, 1), []int{4, 3}},
		{caught, -1, out, []int{13, 12, 11, 10, 9, 8, 7, 6, 5}},
		{length, -1, out, []int{5, 4, 1, 0}}, // the length is fed by the number of cells
		{thread, -1, out, []int{5, 4, 1, 0}},
		{thread, -1, last, []int{10, 9, 2, 1}},
	} {
		r := followed(t, x.text, "0*4", api.Given{Inputs: []int64{5}})
		n := x.state
		if n < 0 {
			n = r.Len()
		}
		if l, e := r.Origin(n, x.place); e != api.OK || !slices.Equal(l, x.want) {
			t.Errorf("%s at %d of %s: error %d, %v, not %v", shownPlace(x.place), n, x.text, e, l, x.want)
		}
	}
}

// P4.3: states that there are not, and places that nothing wrote by then.
func TestOriginNone(t *testing.T) {
	r := ran(t, example, 5)
	for _, x := range []struct {
		state int
		place api.Place
		want  api.Errno
	}{
		{-1, reg(0, 0), api.ErrArg}, {15, reg(0, 0), api.ErrArg}, {15, api.Place{}, api.ErrArg}, {1<<63 - 1, reg(0, 0), api.ErrArg},
		{0, reg(0, 0), api.ErrNone}, {1, reg(0, 0), api.ErrNone}, {2, reg(0, 0), api.OK},
		{14, reg(0, 9), api.ErrNone}, {14, givenOf(0, 0), api.ErrNone}, {14, reg(1, 0), api.ErrNone}, {14, api.Place{}, api.ErrNone},
		{11, placeOf(api.PlOut, 0), api.ErrNone}, {14, placeOf(api.PlOut, 0), api.OK}, {14, placeOf(api.PlOut, 1), api.ErrNone},
	} {
		if l, e := r.Origin(x.state, x.place); e != x.want || (len(l) > 0) != (e == api.OK) {
			t.Errorf("Origin(%d, %s): error %d, %v", x.state, shownPlace(x.place), e, l)
		}
	}
}

// P4.6: what some steps write when they are carried out once more.
func TestRerun(t *testing.T) {
	r := ran(t, example, 5)
	for _, x := range []struct {
		steps []int
		want  []string
	}{
		{nil, nil},
		{[]int{5}, []string{""}}, // a test writes nothing, and is fed by nothing
		{[]int{0}, []string{" r0.2=5"}},
		{[]int{0, 1}, []string{" r0.2=5", " r0.0=5"}},
		{[]int{2, 12}, []string{" r0.2=2", " r0.2=0"}},
		{[]int{0, 1, 6, 7, 8, 9, 10, 11}, []string{" r0.2=5", " r0.0=5", " r0.2=5", " r0.3=1", " r0.2=6", " r0.0=6", " r0.2=6", " o0=6"}},
		{[]int{0, 1, 6, 7, 8, 13 - 1, 13}, []string{" r0.2=5", " r0.0=5", " r0.2=5", " r0.3=1", " r0.2=6", " r0.2=0", " t0=0"}},
	} {
		rows, e := r.Rerun(x.steps)
		var got []string
		for _, row := range rows {
			got = append(got, shownWrites(row))
		}
		if e != api.OK || !slices.Equal(got, x.want) {
			t.Errorf("Rerun(%v): error %d, %q, not %q", x.steps, e, got, x.want)
		}
	}
}

// P4.6: lists that do not ascend, that have no steps of the run, or that lack a step from which a value comes.
func TestRerunRefuses(t *testing.T) {
	r := ran(t, example, 5)
	for _, x := range []struct {
		steps []int
		want  api.Errno
	}{
		{[]int{0, 0}, api.ErrArg}, {[]int{2, 0}, api.ErrArg}, {[]int{0, 2, 2}, api.ErrArg}, {[]int{0, 1, 12, 2}, api.ErrArg},
		{[]int{-1}, api.ErrNone}, {[]int{14}, api.ErrNone}, {[]int{0, 14}, api.ErrNone}, {[]int{-5, 0}, api.ErrNone}, {[]int{0, 1<<63 - 1}, api.ErrNone},
		{[]int{1}, api.ErrNone}, {[]int{8}, api.ErrNone}, {[]int{0, 1, 6, 8}, api.ErrNone}, {[]int{0, 1, 7, 8}, api.ErrNone}, {[]int{0, 1, 10}, api.ErrNone},
	} {
		if rows, e := r.Rerun(x.steps); e != x.want || len(rows) > 0 {
			t.Errorf("Rerun(%v): error %d, %v", x.steps, e, rows)
		}
	}
}

// P4.6: addresses, tests and order feed nothing, so the steps that compute them are not needed.
func TestRerunWithoutAddresses(t *testing.T) {
	r := followed(t, "fun f(a) { return a; } fun main() { let o = new(1); o[0] = 5; let g = fn (a) { return a; }; let t = spawn f(9); join t; lock o; print g.(o[0] + f(1)); }", "0*15 1*9", api.Given{})
	n := r.at(t, 0)
	thin := r.slice(t, n, trace.Thin)
	data := r.slice(t, n, trace.Data)
	if len(thin) >= len(data) {
		t.Fatalf("%v, %v", thin, data)
	}
	rows, e := r.Rerun(thin)
	if e != api.OK || !slices.Equal(rows[len(rows)-1], []api.Write{{Place: placeOf(api.PlOut, 0), Value: num(6)}}) {
		t.Errorf("error %d, %v", e, rows)
	}
	for _, op := range []api.Op{api.OpLock, api.OpJoin, api.OpUnlock} {
		for s := range r.Len() {
			if r.op(t, s) == op {
				if rows, e := r.Rerun([]int{s}); e != api.OK || !slices.Equal(rows[0], r.event(t, s).Writes) {
					t.Errorf("operation %d: error %d, %v", op, e, rows)
				}
			}
		}
	}
}

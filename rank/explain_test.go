package rank_test

import (
	"slices"
	"strings"
	"testing"

	"sleuth/api"
	"sleuth/machine"
	"sleuth/rank"
)

// P7.3: witnesses, worked out by hand. A test stands as in tests; w is the witnesses of the tests, or - if they are not explained.
func TestExplain(t *testing.T) {
	loop := "let n = input; while n { print n; n = n - 1; }" // 0 let, 1 while, 2 print, 3 set
	for _, c := range []struct {
		body, at, tests, domain string
		choices, fuel           int
		w                       string
	}{
		{"let x = input; print x + 2;", "1", "3 > 6", "5 6", 1, 99, "6"},
		{"let x = input; print x + 2;", "0", "3 > 6", "4 5", 1, 99, "4"},
		{"let x = input; print x + 2;", "0", "3 > 6", "5 6", 1, 99, "-"},
		{"let x = input; print x + 2;", "0 1", "3 > 6", "4 6", 1, 99, "-"}, // both are read
		{"let x = input; print x + 2;", "0 1", "3 > 6", "4 6", 2, 99, "4 6"},
		{"let x = input; print x + 2;", "", "3 > 5, 1 > 3", "0", 0, 99, ","}, // nothing is read
		{"let x = input; print x + 2;", "", "3 > 5, 1 > 4", "0", 6, 99, "-"},
		{"let x = input; print x + 2;", "1", "3 > 5", "5", 0, 99, "-"},
		{"let x = input; print x + 2;", "1", "3 > 5, 3 > 6", "5 6", 1, 99, "5,6"},
		{"let x = input; print x + 2;", "1", "> 5", "5 6", 1, 99, "-"}, // the input is missing whatever is chosen
		{"let x = input; print x + 2;", "0", "> 5", "3", 1, 99, "3"},   // now it is not read
		// the shortest one: not to go on is 0
		{loop, "1", "2 >", "0 1", 6, 99, "0"}, {loop, "1", "2 > 2", "-1 0", 6, 99, "-1 0"}, {loop, "1", "2 > 2 1", "0 7 9", 6, 99, "7 7 0"}, {loop, "1", "2 > 2 1 0 -1 -2", "0 1", 6, 99, "1 1 1 1 1 0"},
		{loop, "1", "2 > 2 1 0 -1 -2 -3", "0 1", 6, 99, "-"}, {loop, "1", "2 > 2", "0 1", 1, 99, "-"}, {loop, "1", "2 > 2", "1 2", 6, 999, "-"},
		// of one length the first one by the places in domain
		{loop, "3", "2 > 2 5", "-3 0 5", 4, 99, "5 0"}, {loop, "2", "2 > 3 3", "2 3", 4, 99, "3 3"}, {loop, "0 3", "2 > 5 5", "0 5", 4, 99, "5 5 0"},
		{"print input; let a = 0; let b = 0; print a + b;", "1 2", "1 > 1 3", "0 1 2 3", 2, 99, "0 3"}, {"let a = 0; let b = 0; print a * b;", "0 1", "> 6", "1 2 3 6", 2, 99, "1 6"},
		{"let a = 0; let b = 0; print a * b;", "0 1", "> 4", "-4 -2 -1 2", 2, 99, "-4 -1"},
		// how long the run takes counts: with the open statement it takes 4 steps, without it 8
		{"print 1 + 2 + 3;", "0", "> 6", "6", 1, 4, "6"}, {"print 1 + 2 + 3;", "0", "> 6", "6", 1, 3, "-"}, {"print 1 + 2 + 3;", "", "> 6", "6", 1, 7, "-"}, {"print 1 + 2 + 3;", "", "> 6", "6", 1, 8, ""},
		{"print 1;", "0", "> 1", "1", 1, 0, "-"},
		// a run that is over before it reads more
		{"if input { return 0; } print 4;", "2", "1 >, 0 > 7", "7", 1, 99, ",7"}, {"if input { throw 0; } print 4;", "2", "1 >", "7", 1, 99, "-"},
		// the values that are stored, returned, and chosen in a closure
		{"let o = new(1); o[0] = 4; print o[0];", "1", "> 9", "9", 1, 99, "9"}, {"let g = fn (a) { return a; }; print g.(1) + g.(1);", "1", "> 9", "4 5", 2, 99, "4 5"}, {"let g = fn (a) { return a; }; print g.(1);", "0", "> 9", "9", 6, 99, "-"},
	} {
		w, ok := explained(t, body(t, c.body), numbers(c.at), tests(c.tests), wide(c.domain), c.choices, c.fuel)
		var want [][]int64
		if c.w != "-" {
			for _, s := range strings.Split(c.w, ",") {
				want = append(want, wide(s))
			}
		}
		if ok != (c.w != "-") || !sameLists(w, want) {
			t.Errorf("Explain(%s; %s) of %s by %s: %v, %v, want %s", c.body, c.at, c.tests, c.domain, ok, w, c.w)
		}
	}
}

// P7.3: no tests are explained, with no witnesses.
func TestExplainNothing(t *testing.T) {
	if w, ok := explained(t, body(t, "print 1;"), []int{0}, nil, []int64{1}, 0, 0); !ok || len(w) > 0 {
		t.Error(w, ok)
	}
}

// P7.3: which thread goes on is what the picks of the test say.
func TestExplainThreads(t *testing.T) {
	p := parsed(t, "fun f(n) { print n; } fun main() { let t = spawn f(1); print 2; join t; }") // 0 print, 1 let, 2 print
	l := []api.Test{{Given: api.Given{Picks: []uint8{0, 0, 0, 1, 1}}, Out: []int64{1, 5}}, {Out: []int64{5, 1}}, {Given: api.Given{Picks: []uint8{0, 0, 0, 1, 1}}, Out: []int64{5, 1}}}
	if w, ok := explained(t, p, []int{2}, l[:2], []int64{4, 5}, 1, 99); !ok || !sameLists(w, [][]int64{{5}, {5}}) {
		t.Error(w, ok)
	}
	if w, ok := explained(t, p, []int{2}, l, []int64{4, 5}, 1, 99); ok {
		t.Error(w, ok)
	}
}

// P7.3: the errors of Explain, in their order; those of Diagnose are the ones for the empty set.
func TestExplainErrors(t *testing.T) {
	p, clock := body(t, "let x = 1; assert x;"), body(t, "print clock;")
	much := make([]int64, api.MaxGiven+1)
	broken := api.Test{Given: api.Given{Inputs: much}}
	clocked := api.Test{Given: api.Given{Clocks: []int64{0}, Inputs: much}}
	slow := api.Test{Given: api.Given{Picks: make([]uint8, api.MaxSteps+1)}}
	many := slices.Repeat([]api.Test{clocked}, api.MaxTests+1)
	type call struct {
		p             api.Program
		at            []int
		tests         []api.Test
		domain        string
		choices, fuel int
		want          api.Errno
	}
	calls := []call{
		{p, nil, nil, "1", 0, 0, api.OK}, {p, []int{0}, make([]api.Test, api.MaxTests), "1 2 3 4", api.MaxChoices, api.MaxSteps, api.OK},
		{clock, nil, many, "", -1, -1, api.ErrScope},
		{p, nil, many, "", -1, -1, api.ErrArg}, {p, nil, many, "1 1", 7, -1, api.ErrArg}, {p, nil, many, "2 1", 7, -1, api.ErrArg}, {p, nil, many, "1 2 3 4 4", 7, -1, api.ErrArg}, {p, nil, many, "5 4 3 2 1", 7, -1, api.ErrArg},
		{p, nil, many, "1 2 3 4 5", -1, -1, api.ErrLimit}, {p, nil, nil, "-5 2 3 4 5", 0, 0, api.ErrLimit},
		{p, nil, many, "1", -1, -1, api.ErrArg}, {p, nil, many, "1", -1 << 63, 9, api.ErrArg}, {p, nil, many, "1", 7, -1, api.ErrLimit}, {p, nil, nil, "1", 1<<63 - 1, 9, api.ErrLimit},
		{p, nil, many, "1", 6, -1, api.ErrArg}, {p, nil, many, "1", 6, api.MaxSteps + 1, api.ErrArg}, {p, nil, many, "1", 6, 9, api.ErrLimit},
		{p, nil, many[1:], "1", 6, 9, api.ErrScope}, {p, nil, []api.Test{{}, clocked}, "1", 6, 9, api.ErrScope}, {p, nil, []api.Test{{}, broken}, "1", 6, 9, api.ErrLimit}, {p, nil, []api.Test{slow}, "1", 6, 9, api.ErrLimit},
		{p, nil, []api.Test{broken, clocked}, "1", 6, 9, api.ErrLimit}, {p, nil, []api.Test{clocked, broken}, "1", 6, 9, api.ErrScope}, {p, nil, []api.Test{{Given: api.Given{Clocks: []int64{}}}}, "1", 6, 9, api.OK},
	}
	for want, l := range brokenPrograms(t) {
		for _, q := range l {
			calls = append(calls, call{q, nil, many, "", -1, -1, want})
		}
	}
	for _, at := range [][]int{{1}, {-1}, {2}, {0, 0}, {0, 1}} {
		calls = append(calls, call{p, at, many, "", -1, -1, api.ErrArg}, call{clock, at, many, "", -1, -1, api.ErrScope}, call{p, at, nil, "1 2 3 4 5", 7, 9, api.ErrArg})
	}
	for i, c := range calls {
		w, ok, e := rank.Explain(c.p, c.at, c.tests, wide(c.domain), c.choices, c.fuel)
		if e != c.want || e != api.OK && (ok || len(w) > 0) {
			t.Errorf("Explain, case %d: error %d, %v, %v, want %d", i, e, w, ok, c.want)
		}
		if len(c.at) > 0 {
			continue
		}
		for _, size := range []int{0, 3, -1, 4} {
			want := c.want
			if want == api.OK {
				want = map[int]api.Errno{-1: api.ErrArg, 4: api.ErrLimit}[size]
			}
			if l, e := rank.Diagnose(c.p, c.tests, wide(c.domain), c.choices, c.fuel, size); e != want || e != api.OK && len(l) > 0 {
				t.Errorf("Diagnose, case %d: error %d, %v, want %d", i, e, l, want)
			}
		}
	}
	for size, want := range map[int]api.Errno{-1 << 63: api.ErrArg, 1<<63 - 1: api.ErrLimit} {
		if l, e := rank.Diagnose(p, nil, []int64{1}, 0, 0, size); e != want || len(l) > 0 {
			t.Errorf("Diagnose up to %d: error %d, %v", size, e, l)
		}
	}
}

// modelWitness tries all lists of choices, the shortest ones first, and those of one length by the places of their values.
func modelWitness(t *testing.T, open api.Program, x api.Test, domain []int64, choices, fuel int) ([]int64, bool) {
	t.Helper()
	level := [][]int64{nil}
	for range choices + 1 {
		var longer [][]int64
		for _, clocks := range level {
			x.Given.Clocks = clocks
			if ok, e := rank.Meets(open, x, fuel); e != api.OK {
				t.Fatalf("Meets: error %d", e)
			} else if ok {
				return clocks, true
			}
			for _, v := range domain {
				longer = append(longer, append(slices.Clip(clocks), v))
			}
		}
		level = longer
	}
	return nil, false
}

// puzzle is what is asked about a random program.
type puzzle struct {
	tests         []api.Test
	domain        []int64
	choices, fuel int
}

// puzzle returns tests most of which opened programs meet, if not the program itself does.
func (m *maker) puzzle(t *testing.T, p api.Program, most int) puzzle {
	t.Helper()
	q := puzzle{domain: []int64{-1, 0, 2, 5}[m.Intn(3):], choices: max(m.Intn(most+1), m.Intn(most+1)), fuel: []int{200, 200, 60}[m.Intn(3)]}
	openable, _ := rank.Openable(p)
	at := some(m.Rand, openable, 2+m.Intn(5))
	for range 1 + m.Intn(3) {
		open, e := rank.Open(p, at)
		if e != api.OK {
			t.Fatalf("Open: error %d", e)
		}
		q.tests = append(q.tests, m.wanted(open, q, most))
		if m.Intn(3) == 0 {
			at = some(m.Rand, openable, 2+m.Intn(5))
		}
	}
	return q
}

// wanted returns a test that an opened program meets with random choices, most of the time.
func (m *maker) wanted(open api.Program, q puzzle, most int) api.Test {
	var x api.Test
	for range 8 {
		x.Given = m.given()
		given := x.Given
		for range most {
			given.Clocks = append(given.Clocks, q.domain[m.Intn(len(q.domain))])
		}
		o, _ := machine.Run(open, given, q.fuel)
		x.Out = o.Out
		if o.End == api.EnDone {
			break
		}
	}
	return x
}

// P7.3: what explains the tests of random programs, and by which witnesses, is what trying all choices says.
func TestRandomExplain(t *testing.T) {
	lengths := map[int]int{}
	programs(t, 300, 8, false, func(m *maker, p api.Program) {
		q := m.puzzle(t, p, 3)
		openable, _ := rank.Openable(p)
		for range 4 {
			at := some(m.Rand, openable, 1+m.Intn(6))
			open, _ := rank.Open(p, at)
			var want [][]int64
			explains := true
			for _, x := range q.tests {
				clocks, ok := modelWitness(t, open, x, q.domain, q.choices, q.fuel)
				want = append(want, clocks)
				explains = explains && ok
			}
			w, ok := explained(t, p, at, q.tests, q.domain, q.choices, q.fuel)
			if ok != explains || ok && !sameLists(w, want) {
				t.Fatalf("Explain(%v) of %v by %v, %d choices: %v, %v, want %v, %v", at, q.tests, q.domain, q.choices, ok, w, explains, want)
			}
			if !ok {
				lengths[-1]++
			}
			for _, clocks := range w {
				lengths[len(clocks)]++
			}
		}
	})
	for n := -1; n <= 3; n++ {
		if lengths[n] < 10 {
			t.Errorf("%d witnesses with %d choices", lengths[n], n)
		}
	}
}

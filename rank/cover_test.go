package rank_test

import (
	"maps"
	"slices"
	"strings"
	"testing"

	"sleuth/api"
	"sleuth/lang"
	"sleuth/machine"
	"sleuth/rank"
)

// P7.3: a run meets a test if it ends with EnDone and prints what it is to print.
func TestMeets(t *testing.T) {
	for _, c := range []struct {
		body, test string
		fuel       int
		want       bool
	}{
		{"print input + 1;", "4 > 5", 99, true}, {"print input + 1;", "4 9 9 > 5", 99, true}, {"print input + 1;", "4 > 6", 99, false}, {"print input + 1;", "4 >", 99, false}, {"print input + 1;", "4 > 5 5", 99, false},
		{"print input + 1;", "> 5", 99, false}, {"", ">", 2, true}, {"", ">", 1, false}, {"", "> 1", 99, false}, {"print 1;", "> 1", 4, true}, {"print 1;", "> 1", 3, false}, {"print 1;", "> 1", 0, false},
		{"print 1; throw 2;", "> 1", 99, false}, {"print 1; assert 0;", "> 1", 99, false}, {"print 1; return 7;", "> 1", 99, true}, {"print 1; print 1 / 0;", "> 1", 99, false},
		{"let o = new(0); print 1; lock o; lock o;", "> 1", 99, false}, {"print 2; print 1;", "> 1 2", 99, false}, {"print 2; print 1;", "> 2 1", 99, true},
	} {
		if ok, e := rank.Meets(body(t, c.body), test(c.test), c.fuel); e != api.OK || ok != c.want {
			t.Errorf("Meets(%s; %s): error %d, %v", c.body, c.test, e, ok)
		}
	}
	waits := parsed(t, "fun f(o) { lock o; } fun main() { let o = new(0); lock o; print 3; join spawn f(o); }")
	if ok, e := rank.Meets(waits, test("> 3"), 99); e != api.OK || ok {
		t.Errorf("a deadlock: error %d, %v", e, ok)
	}
	clock := api.Test{Given: api.Given{Clocks: []int64{8}}, Out: []int64{8}}
	if ok, e := rank.Meets(body(t, "print clock;"), clock, 99); e != api.OK || !ok {
		t.Errorf("a clock value: error %d, %v", e, ok)
	}
}

// P7.3: the errors of Meets are those of machine.Run.
func TestMeetsErrors(t *testing.T) {
	one := body(t, "print 1;")
	much := make([]int64, api.MaxGiven+1)
	for _, c := range []struct {
		p    api.Program
		g    api.Given
		fuel int
		want api.Errno
	}{
		{one, api.Given{}, -1, api.ErrArg}, {one, api.Given{}, api.MaxSteps + 1, api.ErrArg}, {api.Program{}, api.Given{}, -1, api.ErrArg}, {api.Program{}, api.Given{}, 9, api.ErrName},
		{one, api.Given{Inputs: much}, 9, api.ErrLimit}, {one, api.Given{Clocks: much}, 9, api.ErrLimit}, {one, api.Given{Picks: make([]uint8, api.MaxSteps+1)}, 9, api.ErrLimit},
		{one, api.Given{Inputs: much[1:], Clocks: much[1:], Picks: make([]uint8, api.MaxSteps)}, api.MaxSteps, api.OK},
	} {
		ok, e := rank.Meets(c.p, api.Test{Given: c.g, Out: []int64{1}}, c.fuel)
		if e != c.want || ok != (e == api.OK) {
			t.Errorf("Meets with fuel %d: error %d, %v, want %d", c.fuel, e, ok, c.want)
		}
	}
}

// forms is a program of two functions that has what bases tell apart: 0 if, 1 print, 2 print (of f); 3 let (main), 4 return (in its closure), 5 let, 6 while, 7 set, 8 if, 9 print, 10 print.
func forms(t *testing.T) api.Program {
	t.Helper()
	return parsed(t, `
		fun f(a) { if a { print 1; } print a; }
		fun idle() { }
		fun main() {
			let g = fn (b) { return b + 1; };
			let n = input;
			while n > 0 { n = n - 1; if g.(n) == 1 { print 5; } }
			print f(n);
		}`)
}

// P7.3: what tests of a program cover.
func TestCover(t *testing.T) {
	p := forms(t)
	for _, c := range []struct {
		b     api.Base
		fuel  int
		tests string
		parts int
		want  string
	}{
		{api.BaStatement, 999, "0 > 0 0, 2 > 5 0 0, -1 > 1 -1 0, >", 11, "p 0 2 3 5 6 10, p 0 2 3 4 5 6 7 8 9 10, p 0 1 2 3 5 6 10, f 3 5"},
		{api.BaFunction, 999, "0 > 0 0, 1 > 0 0, >", 3, "p 0 2, f 0 2, f 2"},
		{api.BaBranch, 999, "0 > 0 0, 1 > 5 0 0, 2 >, -1 > 1 -1 0, >", 6, "p 1 3, p 1 2 3 4, f 1 2 3 4 5, p 0 3, f"},
		{api.BaStatement, 0, "0 > 0 0", 11, "f"}, {api.BaStatement, 1, "0 > 0 0", 11, "f 3"}, {api.BaFunction, 0, "0 > 0 0", 3, "f"}, {api.BaBranch, 8, "0 > 0 0", 6, "f 3"}, {api.BaBranch, 7, "0 > 0 0", 6, "f"},
	} {
		s, e := rank.Cover(p, tests(c.tests), c.b, c.fuel)
		if e != api.OK || !sameSpectrum(s, spectrum(c.parts, c.want)) {
			t.Errorf("Cover(%d, %s): error %d, %v, want %s", c.b, c.tests, e, s, c.want)
		}
	}
	for b := range api.BaBranch + 1 {
		if s, e := rank.Cover(p, nil, b, 9); e != api.OK || s.Parts == 0 || len(s.Rows) > 0 {
			t.Errorf("Cover(%d) of no tests: error %d, %v", b, e, s)
		}
	}
	// a condition that is no number is neither
	odd := body(t, "let a = input; if new(a) { } while a { a = 0; }")
	if s, e := rank.Cover(odd, tests("0 >"), api.BaBranch, 99); e != api.OK || !sameSpectrum(s, spectrum(4, "f")) {
		t.Errorf("a fault: error %d, %v", e, s)
	}
	if s, e := rank.Cover(odd, tests("0 >"), api.BaStatement, 99); e != api.OK || !sameSpectrum(s, spectrum(4, "f 0 1")) {
		t.Errorf("a fault: error %d, %v", e, s)
	}
}

// P7.3: the errors of Cover, in their order, and as many components as are allowed.
func TestCoverErrors(t *testing.T) {
	prints := func(n int) api.Program { return body(t, strings.Repeat("print 1;", n)) }
	ifs := func(n int) api.Program { return body(t, strings.Repeat("if 1 { }", n)) }
	many := make([]api.Test, api.MaxTests+1)
	much := api.Test{Given: api.Given{Inputs: make([]int64, api.MaxGiven+1)}}
	wide := []api.Test{{}, much}
	for i, c := range []struct {
		p     api.Program
		tests []api.Test
		b     api.Base
		fuel  int
		want  api.Errno
	}{
		{api.Program{}, many, 3, 9, api.ErrArg}, {api.Program{}, many, 255, 9, api.ErrArg}, {api.Program{}, many, 0, -1, api.ErrArg}, {api.Program{}, many, 1, api.MaxSteps + 1, api.ErrArg},
		{api.Program{}, many, 0, 9, api.ErrLimit}, {api.Program{}, many[1:], 0, 9, api.ErrName}, {body(t, ""), many, 0, 9, api.ErrLimit},
		{body(t, ""), nil, 0, 9, api.ErrNone}, {body(t, ""), wide, 0, 9, api.ErrNone}, {body(t, "print 1;"), nil, 2, 9, api.ErrNone}, {body(t, ""), nil, 1, 9, api.OK},
		{prints(256), nil, 0, 9, api.OK}, {prints(257), nil, 0, 9, api.ErrLimit}, {prints(257), wide, 0, 9, api.ErrLimit}, {prints(257), nil, 1, 9, api.OK},
		{ifs(128), nil, 2, 9, api.OK}, {ifs(129), nil, 2, 9, api.ErrLimit}, {ifs(256), nil, 0, 9, api.OK},
		{prints(1), wide, 0, 9, api.ErrLimit}, {prints(1), wide, 1, 9, api.ErrLimit}, {ifs(1), wide, 2, 9, api.ErrLimit}, {ifs(1), many[1:], 2, api.MaxSteps, api.OK},
	} {
		s, e := rank.Cover(c.p, c.tests, c.b, c.fuel)
		if e != c.want || e != api.OK && !isNothing(s) || e == api.OK && len(s.Rows) != len(c.tests) {
			t.Errorf("Cover, case %d: error %d, %v, want %d", i, e, s, c.want)
		}
	}
	for want, l := range brokenPrograms(t) {
		for i, p := range l {
			if s, e := rank.Cover(p, wide, api.BaStatement, 9); e != want || !isNothing(s) {
				t.Errorf("Cover, program %d: error %d, %v, want %d", i, e, s, want)
			}
		}
	}
}

// sides returns which side of which condition of a program a thread decides for with its next step.
func sides(m *machine.Machine, thread int, conditions []int) []int {
	i, _ := m.Next(thread)
	frames := m.State().Threads[thread].Frames
	v := frames[len(frames)-1].Regs
	if i.Op != api.OpBranch || v[i.D].Kind != api.VaInt {
		return nil
	}
	side := 2 * slices.Index(conditions, i.Line)
	if v[i.D].N == 0 {
		side++
	}
	return []int{side}
}

// modelCover runs a test step by step, and returns what its row has to be for each base.
func modelCover(p api.Program, x api.Test, fuel int) []api.Row {
	var conditions []int
	for n := range lang.Count(p) {
		if node, _ := lang.At(p, n); node.Kind == api.KiIf || node.Kind == api.KiWhile {
			conditions = append(conditions, n)
		}
	}
	hits := []map[int]bool{{}, {}, {}}
	m, _ := machine.New(p, x.Given)
	for range fuel {
		thread, ok := m.Pick()
		if !ok {
			break
		}
		if i, _ := m.Next(thread); i.Line >= 0 {
			spot, _ := lang.Where(p, i.Line)
			hits[api.BaStatement][i.Line] = true
			hits[api.BaFunction][spot.Func] = true
		}
		for _, side := range sides(m, thread, conditions) {
			hits[api.BaBranch][side] = true
		}
		m.Step()
	}
	o := m.State().Outcome
	var rows []api.Row
	for _, h := range hits {
		rows = append(rows, api.Row{Hits: slices.Sorted(maps.Keys(h)), Fail: o.End != api.EnDone || !slices.Equal(o.Out, x.Out)})
	}
	return rows
}

// P7.3: what random programs cover, with threads and closures, is what their steps say.
func TestRandomCover(t *testing.T) {
	fails := map[bool]int{}
	programs(t, 250, 8, true, func(m *maker, p api.Program) {
		var l []api.Test
		for range 1 + m.Intn(3) {
			g := m.given()
			o, _ := machine.Run(p, g, 400)
			if m.Intn(3) == 0 {
				o.Out = append(o.Out, 1)
			}
			l = append(l, api.Test{Given: g, Out: o.Out})
		}
		fuel := []int{400, 400, 30}[m.Intn(3)]
		for b := range api.BaBranch + 1 {
			s, e := rank.Cover(p, l, b, fuel)
			if e == api.ErrNone && b == api.BaBranch {
				continue
			}
			if e != api.OK || len(s.Rows) != len(l) {
				t.Fatalf("Cover(%d): error %d, %v", b, e, s)
			}
			for i, x := range l {
				if got, want := s.Rows[i], modelCover(p, x, fuel)[b]; got.Fail != want.Fail || !slices.Equal(got.Hits, want.Hits) {
					t.Fatalf("Cover(%d): %v at %d, want %v", b, got, i, want)
				}
				fails[s.Rows[i].Fail]++
				if ok, e := rank.Meets(p, x, fuel); e != api.OK || ok == s.Rows[i].Fail {
					t.Fatalf("Meets: error %d, %v", e, ok)
				}
			}
		}
	})
	if fails[true] < 100 || fails[false] < 100 {
		t.Errorf("rows that fail, and that do not: %v", fails)
	}
}

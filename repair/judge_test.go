package repair_test

import (
	"fmt"
	"slices"
	"strings"
	"testing"

	"sleuth/api"
	"sleuth/learn"
	"sleuth/machine"
	"sleuth/rank"
	"sleuth/record"
	"sleuth/reduce"
	"sleuth/repair"
	"sleuth/trace"
)

// P9.2: Runs.
func TestRuns(t *testing.T) {
	for _, c := range []struct {
		domain string
		inputs int
		want   string
	}{
		{"0 1", 2, "0 0, 0 1, 1 0, 1 1"}, {"-5 7 9", 1, "-5, 7, 9"}, {"4", 3, "4 4 4"}, {"1 2 3", 2, "1 1, 1 2, 1 3, 2 1, 2 2, 2 3, 3 1, 3 2, 3 3"},
		{"", 1, ""}, {"", 5, ""}, {"", api.MaxGiven, ""}, {fmt.Sprint(least, " ", greatest), 1, fmt.Sprint(least, ",", greatest)},
	} {
		if l, e := repair.Runs(api.Suite{Domain: wide(c.domain), Inputs: c.inputs}); e != api.OK || !sameRows(l, table(c.want)) {
			t.Errorf("Runs(%s; %d): %v, error %d, want %s", c.domain, c.inputs, l, e, c.want)
		}
	}
	for _, domain := range []string{"", "1", "1 2 3 4"} { // one run without inputs
		if l, e := repair.Runs(api.Suite{Domain: wide(domain)}); e != api.OK || len(l) != 1 || len(l[0]) != 0 {
			t.Errorf("Runs(%s; 0): %v, error %d", domain, l, e)
		}
	}
	if l, e := repair.Runs(api.Suite{Domain: []int64{3}, Inputs: api.MaxGiven}); e != api.OK || len(l) != 1 || len(l[0]) != api.MaxGiven || slices.Max(l[0]) != 3 || slices.Min(l[0]) != 3 {
		t.Error(l, e)
	}
	for _, c := range []struct{ count, inputs int }{{4, 4}, {2, 8}, {3, 5}} { // as many as may be
		l, e := repair.Runs(api.Suite{Domain: wide("0 1 2 3")[:c.count], Inputs: c.inputs})
		if e != api.OK || !slices.IsSortedFunc(l, slices.Compare[[]int64]) || len(l) > api.MaxRuns || len(l) < 243 {
			t.Errorf("Runs(%d; %d): %v, error %d", c.count, c.inputs, l, e)
		}
		for i, row := range l {
			if len(row) != c.inputs || i > 0 && slices.Equal(row, l[i-1]) {
				t.Errorf("Runs(%d; %d): %v", c.count, c.inputs, l)
			}
		}
	}
}

// bounds is domains and numbers of inputs with the errors of Runs.
func bounds() []struct {
	domain string
	inputs int
	want   api.Errno
} {
	return []struct {
		domain string
		inputs int
		want   api.Errno
	}{
		{"1 1", -1, api.ErrArg}, {"2 1", 0, api.ErrArg}, {"1 2 3 4 4", 99, api.ErrArg}, {"5 4 3 2 1", 0, api.ErrArg}, {"1 2 3 4 5", -1, api.ErrLimit}, {"1 2 3 4 5", 0, api.ErrLimit},
		{"1 2", -1, api.ErrArg}, {"", -1, api.ErrArg}, {"", least, api.ErrArg}, {"1 2", 9, api.ErrLimit}, {"1 2 3 4", 5, api.ErrLimit}, {"1 2 3", 6, api.ErrLimit}, {"1 2", 64, api.ErrLimit}, {"1 2 3 4", 32, api.ErrLimit}, {"1 2", greatest, api.ErrLimit},
		{"1", api.MaxGiven + 1, api.ErrLimit}, {"", api.MaxGiven + 1, api.ErrLimit}, {"1", greatest, api.ErrLimit}, {"1 2", 8, api.OK}, {"1 2 3 4", 4, api.OK},
	}
}

// P9.2: the errors of suites, and which one is told first. All functions that take a suite tell them.
func TestSuiteErrors(t *testing.T) {
	p := body(t, "let a = input; print a;")
	much := make([]int64, api.MaxGiven+1)
	broken, fine := api.Test{Given: api.Given{Inputs: much}}, api.Test{Given: api.Given{Clocks: much[1:]}}
	many := slices.Repeat([]api.Test{broken}, api.MaxTests+1)
	none := api.Contract{At: 9}
	lots := slices.Repeat([]api.Contract{none}, api.MaxContracts+1)
	type call struct {
		s    api.Suite
		want api.Errno
	}
	calls := []call{
		{api.Suite{}, api.OK}, {api.Suite{Fuel: api.MaxSteps}, api.OK}, {api.Suite{Tests: make([]api.Test, api.MaxTests), Contracts: make([]api.Contract, api.MaxContracts), Domain: wide("1 2 3 4"), Inputs: 4, Fuel: 9}, api.OK},
		{api.Suite{Fuel: -1, Tests: many, Contracts: lots, Inputs: -1}, api.ErrArg}, {api.Suite{Fuel: api.MaxSteps + 1, Tests: many, Contracts: lots, Inputs: -1}, api.ErrArg}, {api.Suite{Fuel: least}, api.ErrArg}, {api.Suite{Fuel: greatest, Tests: many}, api.ErrArg},
		{api.Suite{Tests: many, Contracts: []api.Contract{none}, Inputs: -1}, api.ErrLimit}, {api.Suite{Tests: make([]api.Test, api.MaxTests+1), Contracts: []api.Contract{none}, Inputs: -1}, api.ErrLimit},
		{api.Suite{Tests: []api.Test{fine, broken}, Contracts: []api.Contract{none}, Inputs: -1}, api.ErrLimit}, {api.Suite{Tests: []api.Test{{Given: api.Given{Clocks: much}}}, Inputs: -1}, api.ErrLimit}, {api.Suite{Tests: []api.Test{{Given: api.Given{Picks: make([]uint8, api.MaxSteps+1)}}}, Inputs: -1}, api.ErrLimit}, {api.Suite{Tests: []api.Test{fine}, Inputs: -1}, api.ErrArg},
		{api.Suite{Contracts: lots, Inputs: -1}, api.ErrLimit}, {api.Suite{Contracts: lots[1:], Inputs: -1}, api.ErrNone}, {api.Suite{Contracts: []api.Contract{{}, {At: -1}}, Inputs: -1}, api.ErrNone},
		{api.Suite{Contracts: []api.Contract{on(1, "a", "a == 1"), {At: 1, Names: names("a a b")}}, Inputs: -1}, api.ErrTwice}, {api.Suite{Contracts: []api.Contract{{At: 1, Names: names("b")}, none}, Inputs: -1}, api.ErrName}, {api.Suite{Contracts: []api.Contract{{At: 0, Names: names("a")}}, Inputs: -1}, api.ErrName}, {api.Suite{Contracts: []api.Contract{{At: 1, Claims: make([]api.Invariant, api.MaxClaims+1)}}, Inputs: -1}, api.ErrLimit}, {api.Suite{Contracts: []api.Contract{{At: 1, Claims: make([]api.Invariant, 1)}}, Inputs: -1}, api.ErrArg},
	}
	for _, c := range bounds() {
		s := api.Suite{Domain: wide(c.domain), Inputs: c.inputs, Contracts: []api.Contract{on(1, "a", "a == 1")}}
		calls = append(calls, call{s, c.want})
		if l, e := repair.Runs(s); e != c.want || e != api.OK && len(l) > 0 {
			t.Errorf("Runs(%s; %d): %v, error %d, want %d", c.domain, c.inputs, l, e, c.want)
		}
	}
	for i, c := range calls {
		if e := repair.CheckSuite(p, c.s); e != c.want {
			t.Errorf("CheckSuite, case %d: error %d, want %d", i, e, c.want)
		}
		if l, e := repair.Repair(p, c.s, nil, 1); e != c.want || len(l) > 0 {
			t.Errorf("Repair, case %d: error %d, want %d", i, e, c.want)
		}
		// what is wrong with the patch comes first
		for x, first := range map[int]api.Errno{0: api.OK, 5: api.ErrArg} {
			y, want := patchOf(api.Edit{At: x, With: statements(t, "let a = input;")}), c.want
			if first != api.OK {
				want = first
			}
			if j, e := repair.Judge(p, y, c.s); e != want || e != api.OK && !sameJudgement(j, api.Judgement{}) {
				t.Errorf("Judge, case %d: error %d, want %d", i, e, want)
			}
			if l, e := repair.Effects(p, y, c.s); e != want || e != api.OK && len(l) > 0 {
				t.Errorf("Effects, case %d: error %d, want %d", i, e, want)
			}
			if m, e := repair.Minimize(p, y, c.s); e != want && (want != api.OK || e != api.ErrState) || e != api.OK && len(m.Edits) > 0 {
				t.Errorf("Minimize, case %d: error %d, want %d", i, e, want)
			}
		}
	}
	for want, q := range brokenPrograms(t) {
		s := api.Suite{Fuel: -1}
		if e := repair.CheckSuite(q, s); e != want {
			t.Errorf("CheckSuite: error %d, want %d", e, want)
		}
		if l, e := repair.Repair(q, s, []int{7}, -1); e != want || len(l) > 0 {
			t.Errorf("Repair: error %d, want %d", e, want)
		}
	}
}

// read returns the patch in a text, with bars between the edits.
func read(t *testing.T, text string) api.Patch {
	t.Helper()
	if text == "" {
		return api.Patch{}
	}
	return patch(t, strings.Split(text, " | ")...)
}

const (
	product = "let x = input; let y = input; let z = x * y; print z;"                                      // 0 let, 1 let, 2 let, 3 print
	loop    = "let n = input; let s = 0; while n > 0 { s = s + n; n = n - 1; } print s;"                   // 0 let, 1 let, 2 while, 3 set, 4 set, 5 print
	twice   = "let a = input; let g = fn (b) { print a + b; return b; }; print g.(1); a = 3; print g.(2);" // 0 let, 1 let, 2 print, 3 return, 4 print, 5 set, 6 print
)

// P9.2: judgements, worked out by hand.
func TestJudge(t *testing.T) {
	claims := []api.Contract{on(3, "n", "n >= 1"), on(3, "n s", "n <= s"), on(5, "s", "s >= 0, s <= 9"), {At: 0}, on(4, "s", "s >= 1")}
	for _, c := range []struct {
		body, patch string
		s           api.Suite
		want        api.Judgement
	}{
		{product, "", api.Suite{}, api.Judgement{}},
		{"", "", api.Suite{Tests: tests(">"), Domain: wide("1"), Inputs: 1, Fuel: 99}, api.Judgement{}},
		{product, "2: let z = x + y;", api.Suite{Tests: tests("2 3 > 5, 2 3 > 6, 0 0 > 0, 2 > 2, > "), Fuel: 99}, api.Judgement{Failed: []int{1, 3, 4}}},
		{product, "2: let z = x + y;", api.Suite{Tests: tests("2 3 > 5"), Fuel: 5}, api.Judgement{Failed: []int{0}}},
		{product, "2: let z = x + y;", api.Suite{Domain: wide("0 2"), Inputs: 2, Fuel: 99}, api.Judgement{Changed: []int{1, 2}, Worse: []int{1, 2}}},
		{product, "2: let z = x + y;", api.Suite{Domain: wide("0 2"), Inputs: 1, Fuel: 99}, api.Judgement{}}, // both lack an input
		{product, "2: let z = x + y;", api.Suite{Domain: wide("0 2"), Inputs: 2, Fuel: 5}, api.Judgement{}},  // both stop too early
		{product, "2: let z = x + y;", api.Suite{Domain: wide("1 3"), Inputs: 2, Fuel: 99}, api.Judgement{Changed: []int{0, 1, 2, 3}, Worse: []int{0, 1, 2, 3}}},
		// what a run comes to: its end, fault, value and output; neither its line nor its steps
		{product, "3: print z + 0; return 0;", api.Suite{Domain: wide("0 2"), Inputs: 2, Fuel: 99}, api.Judgement{}},
		{product, "3: print z; return x;", api.Suite{Domain: wide("0 2"), Inputs: 2, Fuel: 99}, api.Judgement{Changed: []int{2, 3}, Worse: []int{2, 3}}},
		{product, "3: print z; assert x;", api.Suite{Domain: wide("0 2"), Inputs: 2, Fuel: 99}, api.Judgement{Changed: []int{0, 1}, Worse: []int{0, 1}}},
		{product, "3: assert x; print z;", api.Suite{Domain: wide("0 2"), Inputs: 2, Fuel: 99}, api.Judgement{Changed: []int{0, 1}, Worse: []int{0, 1}}},
		{product, "0: let x = 1 / 0;", api.Suite{Domain: wide("0 2"), Inputs: 1, Fuel: 99}, api.Judgement{Changed: []int{0, 1}}}, // another fault: neither run passed
		{product, "1: let a = 0; let y = input;", api.Suite{Domain: wide("0 2"), Inputs: 1, Fuel: 99}, api.Judgement{}},          // the same fault elsewhere
		{product, "0: let x = 5; throw x;", api.Suite{Domain: wide("7"), Inputs: 2, Fuel: 99}, api.Judgement{Changed: []int{0}, Worse: []int{0}}},
		{"throw input;", "0: throw 5;", api.Suite{Domain: wide("4 5"), Inputs: 1, Fuel: 99}, api.Judgement{Changed: []int{0}}},
		{"print input; lock new(1);", "1: throw 5;", api.Suite{Domain: wide("4 5"), Inputs: 1, Fuel: 99}, api.Judgement{Changed: []int{0, 1}, Worse: []int{0, 1}}},
		{"print input;", "0: print 4;", api.Suite{Domain: wide("4 5"), Inputs: 2, Fuel: 99}, api.Judgement{Changed: []int{2, 3}, Worse: []int{2, 3}}},
		// contracts, with At as they move
		{loop, "", api.Suite{Tests: tests("3 > 6, 0 > 0"), Contracts: claims, Domain: wide("1 2 4"), Inputs: 1, Fuel: 99}, api.Judgement{Broken: []int{1, 2}}}, // at first s is 0; with 4 it becomes 10
		{loop, "", api.Suite{Tests: tests("3 > 6, 0 > 0"), Contracts: claims[2:], Domain: wide("1 2 3"), Inputs: 1, Fuel: 99}, api.Judgement{}},
		{loop, "", api.Suite{Tests: tests("4 > 10"), Contracts: claims[2:], Fuel: 99}, api.Judgement{Broken: []int{0}}},
		{loop, "", api.Suite{Tests: tests("4 > 10"), Contracts: claims[2:], Fuel: 20}, api.Judgement{Failed: []int{0}}}, // the run does not come to it
		{loop, "3: s = s + 1;", api.Suite{Contracts: claims, Domain: wide("1 2 4"), Inputs: 1, Fuel: 99}, api.Judgement{Lost: []int{0, 1}, Changed: []int{1, 2}, Worse: nil}},
		{loop, "3: s = s + 1;", api.Suite{Contracts: claims[2:], Domain: wide("1 2 4"), Inputs: 1, Fuel: 99}, api.Judgement{Changed: []int{1, 2}, Worse: []int{1}}}, // with 4 a contract was broken before
		{loop, "2: print n; while n > 0 { s = s + n; n = n - 1; }", api.Suite{Contracts: claims, Domain: wide("1 4"), Inputs: 1, Fuel: 99}, api.Judgement{Broken: []int{2}, Lost: []int{0, 1, 4}, Changed: []int{0, 1}}},
		{loop, "0: let n = input; let m = n; | 1: let s = 8;", api.Suite{Contracts: claims, Domain: wide("1 2 4"), Inputs: 1, Fuel: 99}, api.Judgement{Broken: []int{2}, Lost: []int{3}, Changed: []int{0, 1, 2}}},
		{loop, "1: let s = 8;", api.Suite{Contracts: claims, Domain: wide("0 1"), Inputs: 1, Fuel: 99}, api.Judgement{Changed: []int{0, 1}, Worse: []int{0}}},
		{loop, "0: let n = 5; n = n - input;", api.Suite{Contracts: claims[:1], Domain: wide("1 5"), Inputs: 1, Fuel: 99}, api.Judgement{Changed: []int{0, 1}, Worse: []int{0, 1}}},
		// a name that a contract is about is there no more, or is not watched
		{"let a = 1; let b = 2; print 3;", "1:", api.Suite{Contracts: []api.Contract{on(2, "a b", "a < b"), on(2, "a", "a == 1"), on(2, "a", "a == 2")}, Fuel: 99}, api.Judgement{Broken: []int{2}, Lost: []int{0}}},
		{"let a = 1; let b = 2; print 3;", "0: let b = 1; | 1: let a = 2;", api.Suite{Contracts: []api.Contract{on(2, "a b", "a < b"), on(2, "b a", "b < a")}, Fuel: 99}, api.Judgement{Broken: []int{0}}},
		{twice, "2: print b;", api.Suite{Contracts: []api.Contract{on(3, "a b", "b <= a"), on(3, "b", "b >= 1"), on(2, "b", "b == 1")}, Fuel: 99, Inputs: 1, Domain: wide("2")}, api.Judgement{Lost: []int{0, 2}, Changed: []int{0}}},
		{twice, "5:", api.Suite{Contracts: []api.Contract{on(3, "a b", "a < b"), on(3, "b", "b <= 1"), {At: 5}}, Fuel: 99, Inputs: 1, Domain: wide("1 2")}, api.Judgement{Broken: []int{0, 1}, Lost: []int{2}}},
		// the same run breaks several contracts of one step, the last one first
		{"let a = input; print a; print a;", "", api.Suite{Tests: tests("3 > 3 3"), Contracts: []api.Contract{on(2, "a", "a == 1"), on(1, "a", "a == 3"), on(1, "a", "a == 1"), on(1, "a", "a == 2")}, Fuel: 99}, api.Judgement{Broken: []int{0, 2, 3}}},
		{"let a = input; print a; print a;", "", api.Suite{Tests: tests("3 > 3 3, 1 > 1 1"), Contracts: []api.Contract{on(1, "a", "a != 0, a == 3"), on(1, "a", "a == 1")}, Fuel: 99, Inputs: 1, Domain: wide("0 1")}, api.Judgement{Broken: []int{0, 1}}},
	} {
		p, x := body(t, c.body), read(t, c.patch)
		j := judged(t, p, x, c.s)
		if !sameJudgement(j, c.want) {
			t.Errorf("Judge(%s; %s) by %s: %v, want %v", c.body, c.patch, describe(c.s), j, c.want)
		}
		if m, e := repair.Minimize(p, x, c.s); repair.Accepts(j) != (e == api.OK) || e != api.OK && (e != api.ErrState || len(m.Edits) > 0) {
			t.Errorf("Minimize(%s; %s) by %s: error %d", c.body, c.patch, describe(c.s), e)
		}
	}
}

// P9.2: the runs of tests have their clock values and picks, those within the bound have neither.
func TestJudgeGiven(t *testing.T) {
	p := parsed(t, "fun f(n) { print n; } fun main() { let t = spawn f(1); print 2; join t; print clock; }") // 0 print, 1 let, 2 print, 3 join, 4 print
	l := []api.Test{{Given: api.Given{Clocks: []int64{7}, Picks: []uint8{0, 0, 0, 1, 1}}, Out: []int64{1, 2, 7}}, {Given: api.Given{Clocks: []int64{7}}, Out: []int64{2, 1, 7}}}
	s := api.Suite{Tests: l, Contracts: []api.Contract{on(4, "t", "t == 1"), on(0, "n", "n == 2")}, Fuel: 99, Domain: wide("1"), Inputs: 1}
	if j := judged(t, p, api.Patch{}, s); !sameJudgement(j, api.Judgement{Broken: []int{1}}) {
		t.Error(j)
	}
	if j := judged(t, p, patch(t, "4: let x = clock; print x;"), s); !sameJudgement(j, api.Judgement{Broken: []int{1}, Lost: []int{0}}) {
		t.Error(j)
	}
	if j := judged(t, p, patch(t, "4: print 7;"), s); !sameJudgement(j, api.Judgement{Broken: []int{1}, Lost: []int{0}, Changed: []int{0}}) {
		t.Error(j)
	}
	if j := judged(t, p, patch(t, "3:"), s); !sameJudgement(j, api.Judgement{Failed: []int{1}, Broken: []int{1}, Changed: []int{0}}) {
		t.Error(j)
	}
}

// P9.2: Accepts.
func TestAccepts(t *testing.T) {
	for _, c := range []struct {
		j    api.Judgement
		want bool
	}{
		{api.Judgement{}, true}, {api.Judgement{Failed: []int{}, Broken: []int{}, Lost: []int{}}, true}, {api.Judgement{Changed: []int{1, 2}, Worse: []int{2}}, true},
		{api.Judgement{Failed: []int{0}}, false}, {api.Judgement{Broken: []int{0}}, false}, {api.Judgement{Lost: []int{0}}, false}, {api.Judgement{Failed: []int{-1}, Broken: []int{4, 4}, Lost: []int{9}}, false},
	} {
		if repair.Accepts(c.j) != c.want {
			t.Errorf("Accepts(%v): %v", c.j, !c.want)
		}
	}
}

// isAlike reports whether two outcomes are the same.
func isAlike(a, b api.Outcome) bool {
	return a.End == b.End && a.Fault == b.Fault && a.Value == b.Value && slices.Equal(a.Out, b.Out)
}

// modelJudge judges contract by contract and run by run.
func modelJudge(t *testing.T, p api.Program, x api.Patch, s api.Suite) (j api.Judgement) {
	t.Helper()
	q := modelApply(t, p, x)
	moved, _ := repair.Moved(p, x)
	runs, _ := repair.Runs(s)
	for n, test := range s.Tests {
		if o, _ := machine.Run(q, test.Given, s.Fuel); o.End != api.EnDone || !slices.Equal(o.Out, test.Out) {
			j.Failed = append(j.Failed, n)
		}
	}
	for n, c := range s.Contracts {
		c.At = moved[c.At]
		if c.At < 0 || learn.CheckContract(q, c) != api.OK {
			j.Lost = append(j.Lost, n)
			continue
		}
		broken := false
		keeps := func(g api.Given) {
			_, is, _, e := learn.Keeps(q, []api.Contract{c}, g, s.Fuel)
			if broken = broken || is; e != api.OK {
				t.Fatalf("Keeps: error %d", e)
			}
		}
		for _, test := range s.Tests {
			keeps(test.Given)
		}
		for _, run := range runs {
			keeps(given(run...))
		}
		if broken {
			j.Broken = append(j.Broken, n)
		}
	}
	for n, run := range runs {
		before, _ := machine.Run(p, given(run...), s.Fuel)
		after, _ := machine.Run(q, given(run...), s.Fuel)
		if isAlike(before, after) {
			continue
		}
		j.Changed = append(j.Changed, n)
		if _, broken, o, _ := learn.Keeps(p, s.Contracts, given(run...), s.Fuel); !broken && o.End == api.EnDone {
			j.Worse = append(j.Worse, n)
		}
	}
	return j
}

// modelStep finds the first step at which two recorded runs are at different statements, or one is over.
func modelStep(t *testing.T, p, q api.Program, moved []int, g api.Given, fuel int) int {
	t.Helper()
	var traces []*trace.Trace
	for _, p := range []api.Program{p, q} {
		l, _, e := record.Record(p, g, fuel)
		x, f := trace.Of(p, l)
		if e != api.OK || f != api.OK {
			t.Fatal(e, f)
		}
		traces = append(traces, x)
	}
	for n := 0; ; n++ {
		a, e := traces[0].Event(n)
		b, f := traces[1].Event(n)
		if e != api.OK && f != api.OK || e != f {
			return n
		}
		if a.Line >= 0 {
			a.Line = moved[a.Line]
		}
		if a.Line != b.Line {
			return n
		}
	}
}

// P9.2, P9.5: judgements of random patches, and the effects that belong to them.
func TestRandomJudgements(t *testing.T) {
	seen := map[string]int{}
	programs(t, 500, 10, true, func(m *maker, p api.Program) {
		x, s := m.patch(p, 3), m.suite(t, p)
		j, want := judged(t, p, x, s), modelJudge(t, p, x, s)
		if !sameJudgement(j, want) {
			t.Errorf("Judge(%s) by %s: %v, want %v", writtenPatch(t, x), describe(s), j, want)
		}
		for name, l := range map[string][]int{"failed": j.Failed, "broken": j.Broken, "lost": j.Lost, "changed": j.Changed, "worse": j.Worse} {
			seen[name] += min(len(l), 1)
		}
		q, runs := applied(t, p, x), [][]int64(nil)
		runs, _ = repair.Runs(s)
		moved, _ := repair.Moved(p, x)
		effects, e := repair.Effects(p, x, s)
		if e != api.OK || len(effects) != len(j.Changed) {
			t.Fatalf("Effects(%s) by %s: %v, error %d", writtenPatch(t, x), describe(s), effects, e)
		}
		for i, y := range effects {
			g := given(runs[y.Run]...)
			before, _ := machine.Run(p, g, s.Fuel)
			after, _ := machine.Run(q, g, s.Fuel)
			step := modelStep(t, p, q, moved, g, s.Fuel)
			if y.Run != j.Changed[i] || !sameOutcome(y.Before, before) || !sameOutcome(y.After, after) || y.Step != step {
				t.Errorf("Effects(%s) by %s: %v, want step %d", writtenPatch(t, x), describe(s), y, step)
			}
		}
		if repair.Accepts(j) {
			seen["accepted"]++
			for _, test := range s.Tests {
				if ok, e := rank.Meets(q, test, s.Fuel); !ok || e != api.OK {
					t.Errorf("Judge(%s) accepts, but %v is not met", writtenPatch(t, x), test)
				}
			}
		}
	})
	for _, name := range []string{"failed", "broken", "lost", "changed", "worse", "accepted"} {
		if seen[name] < 30 {
			t.Error("too few cases:", seen)
		}
	}
}

// P9.2: effects, worked out by hand.
func TestEffects(t *testing.T) {
	for _, c := range []struct {
		body, patch string
		s           api.Suite
		want        string // run, ends and outputs before and after, step
	}{
		{product, "2: let z = x + y;", api.Suite{Domain: wide("0 1"), Inputs: 2, Fuel: 99}, "1: 1 [0] 1 [1] 4, 2: 1 [0] 1 [1] 4, 3: 1 [1] 1 [2] 4"},
		{product, "2: let z = x + y;", api.Suite{Domain: wide("0 1"), Inputs: 2, Fuel: 5}, ""},
		{product, "3: print z + 1;", api.Suite{Domain: wide("2"), Inputs: 2, Fuel: 99}, "0: 1 [4] 1 [5] 8"},
		{product, "0: let a = 1; let x = input;", api.Suite{Domain: wide("2"), Inputs: 2, Fuel: 10}, "0: 6 [4] 6 [] 0"}, // the fuel ends one before it prints
		{"print 1;", "0:", api.Suite{Fuel: 99}, "0: 1 [1] 1 [] 2"},                                                      // statement -1, then the end of main, which is -1, too
		{"print 1;", "0:", api.Suite{Fuel: 2}, "0: 6 [1] 1 [] 2"},                                                       // both have as many steps
		{"", "", api.Suite{Fuel: 99}, ""},
		{"print 1; print 2;", "1:", api.Suite{Fuel: 99}, "0: 1 [1 2] 1 [1] 4"},
		{"print 1; print 2;", "0:", api.Suite{Fuel: 99}, "0: 1 [1 2] 1 [2] 0"},
		{"print input; let a = input; if a { print 1; } else { print 2; }", "2: if !a { print 1; } else { print 2; }", api.Suite{Domain: wide("0 4"), Inputs: 2, Fuel: 99}, "0: 1 [0 2] 1 [0 1] 4, 1: 1 [0 1] 1 [0 2] 4, 2: 1 [4 2] 1 [4 1] 4, 3: 1 [4 1] 1 [4 2] 4"},
		// what is edited is come to late, or not at all
		{loop, "4: n = n - 2;", api.Suite{Domain: wide("0 1 2"), Inputs: 1, Fuel: 99}, "2: 1 [3] 1 [2] 12"},
		{loop, "5: print s; print n;", api.Suite{Domain: wide("0 1"), Inputs: 1, Fuel: 99}, "0: 1 [0] 1 [0 0] 8, 1: 1 [1] 1 [1 0] 21"},
		{"let g = fn (a) { print a; return 0; }; if input { g.(3); }", "1: print a + 1;", api.Suite{Domain: wide("0 1"), Inputs: 1, Fuel: 99}, "1: 1 [3] 1 [4] 7"},
	} {
		p, x := body(t, c.body), read(t, c.patch)
		l, e := repair.Effects(p, x, c.s)
		var texts []string
		for _, y := range l {
			texts = append(texts, fmt.Sprint(y.Run, ": ", y.Before.End, y.Before.Out, y.After.End, y.After.Out, y.Step))
		}
		if s := strings.ReplaceAll(strings.Join(texts, ", "), ": ", ": "); e != api.OK || s != c.want {
			t.Errorf("Effects(%s; %s): %s, error %d, want %s", c.body, c.patch, s, e, c.want)
		}
	}
}

// modelMinimize searches as Minimize does, by what the exported functions say.
func modelMinimize(t *testing.T, p api.Program, x api.Patch, s api.Suite) api.Patch {
	t.Helper()
	some := func(at []int) (y api.Patch) {
		for _, i := range at {
			y.Edits = append(y.Edits, x.Edits[i])
		}
		return y
	}
	var answers []api.Verdict
	for {
		q, e := reduce.List(len(x.Edits), answers)
		if e != api.OK {
			t.Fatalf("List: error %d", e)
		}
		if q.Done {
			return some(q.Kept)
		}
		v := api.VePass
		if repair.CheckPatch(p, some(q.Ask)) != api.OK {
			v = api.VeUnknown
		} else if repair.Accepts(judged(t, p, some(q.Ask), s)) {
			v = api.VeFail
		}
		answers = append(answers, v)
	}
}

// P9.2, P9.6: what Minimize returns is accepted, and each edit of it is needed.
func TestRandomMinimize(t *testing.T) {
	fewer, needed := 0, 0
	programs(t, 600, 10, true, func(m *maker, p api.Program) {
		x, s := m.patch(p, api.MaxEdits), m.suite(t, p)
		q := applied(t, p, x)
		if m.Intn(2) == 0 {
			s.Contracts = nil
			s.Tests = append(s.Tests, api.Test{Given: given(1, 2, 0, 3)})
		}
		for i := range s.Tests { // most of which it meets
			if o, _ := machine.Run(q, s.Tests[i].Given, s.Fuel); m.Intn(40) > 0 && o.End == api.EnDone {
				s.Tests[i].Out = o.Out
			}
		}
		ok := repair.Accepts(judged(t, p, x, s))
		y, e := repair.Minimize(p, x, s)
		if !ok {
			if e != api.ErrState || len(y.Edits) > 0 {
				t.Errorf("Minimize(%s) by %s: %s, error %d", writtenPatch(t, x), describe(s), writtenPatch(t, y), e)
			}
			return
		}
		if e != api.OK || !samePatch(y, modelMinimize(t, p, x, s)) || !repair.Accepts(judged(t, p, y, s)) {
			t.Errorf("Minimize(%s) by %s: %s, error %d", writtenPatch(t, x), describe(s), writtenPatch(t, y), e)
		}
		for i := range y.Edits {
			z := api.Patch{Edits: slices.Delete(slices.Clone(y.Edits), i, i+1)}
			if repair.CheckPatch(p, z) == api.OK && repair.Accepts(judged(t, p, z, s)) {
				t.Errorf("Minimize(%s) by %s: %s, but %s is accepted", writtenPatch(t, x), describe(s), writtenPatch(t, y), writtenPatch(t, z))
			}
			needed++
		}
		fewer += len(x.Edits) - len(y.Edits)
	})
	if fewer < 100 || needed < 40 {
		t.Error("too few cases:", fewer, needed)
	}
}

// P9.2: minimized patches, worked out by hand.
func TestMinimize(t *testing.T) {
	for _, c := range []struct{ body, patch, tests, want string }{
		{product, "2: let z = x + y; | 3: print z;", "2 3 > 5, 0 0 > 0", "2: let z = x + y;"},
		{product, "0: let x = input; | 2: let z = y + x; | 3: print z;", "2 3 > 5, 0 0 > 0", "2: let z = y + x;"},
		{product, "0: let x = input; | 3: print z;", "2 3 > 6", ""}, // the program itself is accepted
		{product, "", "2 3 > 6", ""},
		{product, "", "2 3 > 5", "-"}, {product, "3: print z;", "2 3 > 5", "-"},
		{product, "0: let x = 1; | 1: let y = 2; | 2: let z = 3;", "2 3 > 3", "2: let z = 3;"},
		{product, "0: let x = 1; | 1: let y = 2;", "3 3 > 2", "0: let x = 1; | 1: let y = 2;"},
		{product, "0: let w = 1; let x = 4; | 2: let z = w; | 3: print z; print 4;", "> 1 4", "-"},
		{product, "0: let w = 1; let x = 4; | 1: let y = 0; | 2: let z = w; | 3: print z; print 4;", "> 1 4", "0: let w = 1; let x = 4; | 1: let y = 0; | 2: let z = w; | 3: print z; print 4;"},
	} {
		s := api.Suite{Tests: tests(c.tests), Fuel: 99}
		y, e := repair.Minimize(body(t, c.body), read(t, c.patch), s)
		if c.want == "-" {
			if e != api.ErrState || len(y.Edits) > 0 {
				t.Errorf("Minimize(%s; %s): %s, error %d", c.body, c.patch, writtenPatch(t, y), e)
			}
			continue
		}
		if e != api.OK || writtenPatch(t, y) != c.want {
			t.Errorf("Minimize(%s; %s): %s, error %d, want %s", c.body, c.patch, writtenPatch(t, y), e, c.want)
		}
	}
}

package repair_test

import (
	"fmt"
	"slices"
	"strings"
	"testing"

	"sleuth/api"
	"sleuth/lang"
	"sleuth/learn"
	"sleuth/machine"
	"sleuth/rank"
	"sleuth/repair"
)

// fitted returns what Fit puts in the place of a statement, or a dash.
func fitted(t *testing.T, p api.Program, n int, l []api.Test, domain []int64, choices, fuel, size int) string {
	t.Helper()
	x, found, e := repair.Fit(p, n, l, domain, choices, fuel, size)
	if e != api.OK || !found && (x.At != 0 || len(x.With) > 0) || found && x.At != n {
		t.Fatalf("Fit(%s, %d) by %v: %v, %v, error %d", written(t, p), n, l, x, found, e)
	}
	if !found {
		return "-"
	}
	return writtenList(t, x.With)
}

// P9.3: what is fitted, worked out by hand.
func TestFit(t *testing.T) {
	count := "fun main() { let i = 0; let o = new(3); while i < 3 { o[i] = 0; i = i + 1; } print o[0]; print o[1]; print o[2]; }" // 0 let, 1 let, 2 while, 3 store, 4 set, 5 to 7 print
	for _, c := range []struct {
		text                string
		n                   int
		tests, domain       string
		choices, fuel, size int
		want                string
	}{
		// every kind of statement that can be opened
		{"fun main() { let x = input; let y = input; let z = x * y; print z; }", 2, "2 3 > 5, 0 0 > 0", "0 5", 1, 99, 3, "let z = x + y;"},
		{"fun main() { let x = input; let z = 0; z = 7; print z; }", 2, "2 > 4, 3 > 6", "4 6", 1, 99, 3, "z = x + x;"},
		{"fun main() { let x = input; print 7; }", 1, "2 > 4, 3 > 9", "4 9", 1, 99, 3, "print x * x;"},
		{"fun f(a, b) { return a; } fun main() { print f(input, input); }", 0, "7 2 > 5, 3 1 > 2", "2 5", 1, 99, 3, "return a - b;"},
		{"fun main() { let a = input; let b = input; if a { print 1; } else { print 2; } }", 2, "3 3 > 1, 5 3 > 2, 2 5 > 2", "0 1", 1, 99, 3, "if a == b { print 1; } else { print 2; }"},
		{"fun main() { let n = input; let i = 0; while n { print i; i = i + 1; } }", 2, "2 > 0 1", "0 1", 3, 99, 3, "while n != i { print i; i = i + 1; }"},
		{count, 3, "> 0 2 4", "0 2 4", 3, 99, 3, "o[i] = i + i;"}, {count, 3, "> 7 8 9", "7 8 9", 3, 99, 5, "-"}, {count, 3, "> 1 2 1", "1 2 4", 3, 99, 3, "-"}, {count, 3, "> 0 1 4", "0 1 4", 3, 99, 3, "o[i] = i * i;"}, {count, 3, "> 1 2 5", "1 2 5", 3, 99, 5, "o[i] = 1 + (i * i);"},
		// as few nodes as will do, and as few as are allowed
		{"fun main() { let x = input; print x * 1; }", 1, "2 > 2", "2", 1, 99, 5, "print x;"}, {"fun main() { let x = input; print x; }", 1, "4 > 5, 7 > 8", "5 8", 1, 99, 1, "-"}, {"fun main() { let x = input; print x; }", 1, "4 > 5, 7 > 8", "5 8", 1, 99, 2, "-"}, {"fun main() { let x = input; print x; }", 1, "4 > 5, 7 > 8", "5 8", 1, 99, 3, "print x + 1;"},
		{"fun main() { print 5; }", 0, "> 1", "1", 1, 99, 1, "print 1;"}, {"fun main() { print 5; }", 0, "> 3", "3", 1, 99, 3, "print 1 + 2;"},
		// nothing explains the tests; the choices, the fuel, the domain
		{"fun main() { let x = input; print x; }", 1, "4 > 5", "4 6", 1, 99, 3, "-"}, {"fun main() { let x = input; print x; }", 1, "4 > 5", "5", 0, 99, 3, "-"}, {"fun main() { let x = input; print x; }", 1, "4 > 5", "5", 1, 5, 3, "-"}, {"fun main() { let x = input; print x; }", 1, "4 > 5", "5", 1, 6, 3, "print x + 1;"}, {"fun main() { let x = input; print x; }", 1, "> 5", "5", 1, 99, 3, "-"},
		// no witness has a value: no tests, or no run comes to it
		{"fun main() { print 5; }", 0, "", "1", 1, 99, 3, "-"}, {"fun main() { if input { print 5; } }", 1, "0 >, 0 >", "1", 1, 99, 3, "-"}, {"fun main() { if input { print 5; } }", 1, "0 >, 1 > 1, 0 >", "1", 1, 99, 3, "print 1;"},
		// the same statement in several frames: the values of its own one
		{"fun f(n) { if n == 0 { return 0; } let s = f(n - 1); print 9; return s; } fun main() { f(2); }", 3, "> 1 2", "1 2", 2, 99, 3, "print n;"},
		{"fun f(n) { if n == 0 { return 0; } let s = f(n - 1); return s; } fun main() { print f(3); }", 3, "> 6", "1 3 6", 3, 199, 3, "-"},
		// in a closure: its parameters, what it holds when it is open, and what it declares
		{"fun main() { let a = input; let g = fn (b) { let c = b; a = a; print a + c; return 0; }; g.(2); g.(3); }", 4, "10 > 12 13", "12 13", 2, 99, 3, "print a + b;"},
		{"fun main() { let a = input; let g = fn (b) { print a; return 0; }; g.(2); g.(3); }", 2, "1 > 2 3", "2 3", 2, 99, 3, "print b;"}, {"fun main() { let a = input; let g = fn (b) { print a; return 0; }; g.(2); g.(3); }", 2, "1 > 3 4", "3 4", 2, 99, 3, "print b + 1;"},
		{"fun main() { let z = 5; let y = 6; let g = fn (b, c) { let d = z - y; print 0; print d; return c; }; g.(7, 8); }", 4, "> 30 -1", "30", 1, 99, 3, "print z * y;"},
		// names whose values are not plain: a reference, a closure, and a number that is too large
		{"fun main() { let o = new(1); let x = input; let g = fn () { return 1; }; print 0; }", 4, "4 > 4", "4", 1, 99, 1, "print x;"}, {"fun main() { let x = input; let y = input; print 0; }", 2, "2147483648 7 > 7, 1 7 > 7", "7", 1, 99, 1, "print y;"}, {"fun main() { let x = input; print 0; }", 1, "2147483648 > 2147483648", "2147483648", 1, 99, 3, "-"}, {"fun main() { let x = input; print 0; }", 1, "2147483647 > 2147483647", "2147483647", 1, 99, 3, "print x;"}, {"fun main() { let x = input; print 0; }", 1, "-2147483648 > 2", "2", 1, 99, 3, "print 2;"}, {"fun main() { let x = input; print 0; }", 1, "-2147483647 > -2147483647", "-2147483647", 1, 99, 3, "print x;"},
		// the first eight names are watched
		{"fun main() { let a = 10; let b = 11; let c = 12; let d = 13; let e = 14; let f = 15; let g = 16; let h = 17; let i = 18; print 0; }", 9, "> 17", "17", 1, 99, 1, "print h;"}, {"fun main() { let a = 10; let b = 11; let c = 12; let d = 13; let e = 14; let f = 15; let g = 16; let h = 17; let i = 18; print 0; }", 9, "> 18", "18", 1, 99, 1, "-"},
		// a closure in the expression that is replaced goes with it
		{"fun main() { let x = input; print fn (a) { print a; return x; }.(3); }", 1, "4 > 4", "4", 1, 99, 3, "print x;"}, {"fun main() { let x = input; let g = fn (a) { let y = 5; return y; }; let o = new(1); o[fn () { return 0; }.()] = 1; print o[0]; }", 5, "4 > 4", "4", 1, 99, 3, "o[fn () { return 0; }.()] = x;"},
		// a store that throws ahead of its value is no row
		{"fun f(i) { if i == 1 { throw i; } return i; } fun main() { let o = new(3); let i = 0; while i < 3 { try { o[f(i)] = 9; } catch e { } i = i + 1; } print o[0]; print o[1]; print o[2]; }", 7, "> 1 0 3", "1 3", 3, 299, 3, "o[f(i)] = i + 1;"},
	} {
		if s := fitted(t, parsed(t, c.text), c.n, tests(c.tests), wide(c.domain), c.choices, c.fuel, c.size); s != c.want {
			t.Errorf("Fit(%s, %d) by %s: %s, want %s", c.text, c.n, c.tests, s, c.want)
		}
	}
}

// P9.3: several threads, with the picks of the tests: the rows are of the threads that choose, in the order of the steps.
func TestFitThreads(t *testing.T) {
	p := parsed(t, "fun f(n, o) { o[n] = 0; } fun main() { let o = new(3); let t = spawn f(1, o); let u = spawn f(2, o); join t; join u; print o[1]; print o[2]; }") // 0 store, 1 let
	picks := make([]uint8, 60)
	for i := range picks {
		picks[i] = uint8(i / 3)
	}
	l := []api.Test{{Given: api.Given{Picks: picks}, Out: []int64{1, 4}}, {Out: []int64{1, 4}}}
	if s := fitted(t, p, 0, l, []int64{1, 4}, 2, 99, 3); s != "o[n] = n * n;" {
		t.Error(s)
	}
	last := slices.Repeat([]uint8{5}, 40) // the last thread that is runnable
	l = []api.Test{{Given: api.Given{Picks: append(make([]uint8, 11), last...)}, Out: []int64{1, 4}}}
	if w, ok, e := rank.Explain(p, []int{0}, l, []int64{1, 4}, 2, 99); !ok || e != api.OK || !sameRows(w, [][]int64{{4, 1}}) {
		t.Error(w, ok, e)
	}
	if s := fitted(t, p, 0, l, []int64{1, 4}, 2, 99, 3); s != "o[n] = n * n;" {
		t.Error(s)
	}
}

// P9.3: a program without room for the expression is not mended.
func TestFitAtLimits(t *testing.T) {
	p := api.Program{Funcs: []api.Func{{Name: "main", Body: append(statements(t, "let x = input; print 0;"), broad(api.MaxNodes-4)...)}}}
	for i := range p.Funcs[0].Body[2:] {
		p.Funcs[0].Body[2+i] = api.Node{Kind: api.KiDo, Subs: []api.Node{{Kind: api.KiNum}}}
	}
	if s := fitted(t, p, 1, tests("4 > 4"), []int64{4}, 1, 2000, 3); s != "print x;" {
		t.Error(s)
	}
	if s := fitted(t, p, 1, tests("4 > 5"), []int64{5}, 1, 2000, 3); s != "-" {
		t.Error(s)
	}
	p.Funcs[0].Body = p.Funcs[0].Body[:510]
	if s := fitted(t, p, 1, tests("4 > 5"), []int64{5}, 1, 2000, 3); s != "print x + 1;" {
		t.Error(s)
	}
}

// P9.3: the errors of Fit: those of rank.Explain, then the size.
func TestFitErrors(t *testing.T) {
	p, clock := body(t, "let x = 1; assert x; print 2;"), body(t, "print clock;")
	many := make([]api.Test, api.MaxTests+1)
	clocked := []api.Test{{Given: api.Given{Clocks: []int64{0}}}}
	long := []api.Test{{Given: api.Given{Inputs: make([]int64, api.MaxGiven+1)}}}
	type call struct {
		p                   api.Program
		n                   int
		tests               []api.Test
		domain              string
		choices, fuel, size int
		want                api.Errno
	}
	calls := []call{
		{p, 0, nil, "1", 0, 0, 1, api.OK}, {p, 2, many[1:], "1 2 3 4", api.MaxChoices, 0, 5, api.OK},
		{clock, 0, many, "", -1, -1, 0, api.ErrScope}, {p, 1, many, "", 7, -1, 6, api.ErrArg}, {p, 3, many, "1 2 3 4 5", 7, -1, 6, api.ErrArg}, {p, -1, many, "1 2 3 4 5", 7, -1, 6, api.ErrArg}, {p, least, nil, "1", 0, 0, 1, api.ErrArg}, {p, greatest, nil, "1", 0, 0, 1, api.ErrArg},
		{p, 0, many, "", 7, -1, 6, api.ErrArg}, {p, 0, many, "2 1", 7, -1, 6, api.ErrArg}, {p, 0, many, "1 2 3 4 5", -1, -1, 0, api.ErrLimit}, {p, 0, many, "1", -1, -1, 6, api.ErrArg}, {p, 0, many, "1", 7, -1, 0, api.ErrLimit}, {p, 0, many, "1", 6, -1, 6, api.ErrArg}, {p, 0, many, "1", 6, api.MaxSteps + 1, 6, api.ErrArg}, {p, 0, many, "1", 6, 9, 0, api.ErrLimit},
		{p, 0, clocked, "1", 6, 9, 0, api.ErrScope}, {p, 0, long, "1", 6, 9, 0, api.ErrLimit},
		{p, 0, nil, "1", 6, 9, 0, api.ErrArg}, {p, 0, nil, "1", 6, 9, -1, api.ErrArg}, {p, 0, nil, "1", 6, 9, least, api.ErrArg}, {p, 0, nil, "1", 6, 9, 6, api.ErrLimit}, {p, 0, nil, "1", 6, 9, greatest, api.ErrLimit}, {p, 0, tests("> 7"), "1", 1, 9, 0, api.ErrArg}, {p, 0, tests("> 7"), "1", 1, 9, 6, api.ErrLimit},
	}
	for want, q := range brokenPrograms(t) {
		calls = append(calls, call{q, 0, many, "", -1, -1, 0, want})
	}
	for i, c := range calls {
		x, found, e := repair.Fit(c.p, c.n, c.tests, wide(c.domain), c.choices, c.fuel, c.size)
		if e != c.want || found || x.At != 0 || len(x.With) > 0 {
			t.Errorf("Fit, case %d: %v, %v, error %d, want %d", i, x, found, e, c.want)
		}
	}
}

// modelFit takes the rows from the samples of the opened program: where the chosen expression comes first, a statement begins at the step that reads the clock. For a store, whose value comes behind other expressions, it is not always known.
func modelFit(t *testing.T, p api.Program, n int, l []api.Test, domain []int64, choices, fuel, size int) (with string, known bool) {
	t.Helper()
	witness, ok, e := rank.Explain(p, []int{n}, l, domain, choices, fuel)
	if e != api.OK {
		t.Fatalf("Explain: error %d", e)
	}
	if !ok || len(slices.Concat(witness...)) == 0 {
		return "-", true
	}
	open, e := rank.Open(p, []int{n})
	if e != api.OK {
		t.Fatalf("Open: error %d", e)
	}
	var plans []api.Given
	for i, test := range l {
		g := test.Given
		g.Clocks = witness[i]
		plans = append(plans, g)
	}
	watched, rows, e := learn.Samples(open, n, plans, fuel)
	if e != api.OK {
		t.Fatalf("Samples: error %d", e)
	}
	want := slices.Concat(witness...)
	if len(watched) == 0 {
		rows = make([][]int64, len(want))
	}
	s, _ := lang.At(p, n)
	if s.Kind == api.KiStore && (len(rows) != len(want) || strings.Contains(written(t, p), "spawn")) {
		return "", false
	}
	expr, ok, e := repair.Solve(watched, rows, want, size)
	if e != api.OK {
		t.Fatalf("Solve(%v, %v, %v): error %d", watched, rows, want, e)
	}
	if !ok {
		return "-", true
	}
	at := 0
	if s.Kind == api.KiStore {
		at = 2
	}
	s.Subs[at] = expr
	return writtenList(t, []api.Node{s}), true
}

// P9.3: what is fitted to random programs, with closures and threads.
func TestRandomFit(t *testing.T) {
	seen := map[string]int{}
	programs(t, 700, 8, false, func(m *maker, p api.Program) {
		domain := []int64{0, 1, int64(2 + m.Intn(3))}
		l, e := rank.Openable(p)
		if e != api.OK || len(l) == 0 {
			return
		}
		n := l[m.Intn(len(l))]
		s, _ := lang.At(p, n)
		open, _ := rank.Open(p, []int{n})
		var few []api.Test
		for range 1 + m.Intn(3) {
			g := m.given()
			for range 6 - len(g.Inputs) {
				g.Inputs = append(g.Inputs, int64(m.Intn(3)))
			}
			h := g
			for range 3 {
				h.Clocks = append(h.Clocks, domain[m.Intn(len(domain))])
			}
			if o, _ := machine.Run(open, h, fuel); o.End == api.EnDone {
				few = append(few, api.Test{Given: g, Out: o.Out})
			}
		}
		size := 1 + m.Intn(5)
		got := fitted(t, p, n, few, domain, 3, fuel, size)
		want, known := modelFit(t, p, n, few, domain, 3, fuel, size)
		if known && got != want {
			t.Errorf("Fit(%d) by %v and %v: %s, want %s", n, few, domain, got, want)
		}
		spot, _ := lang.Where(p, n)
		switch {
		case got == "-":
			seen["none"]++
		case strings.ContainsAny(got, "vog"):
			seen[fmt.Sprint("kind ", s.Kind)]++
			if spot.Fn {
				seen["in closures"]++
			}
		}
	})
	for _, s := range []string{"none", "in closures", fmt.Sprint("kind ", api.KiLet), fmt.Sprint("kind ", api.KiSet), fmt.Sprint("kind ", api.KiStore), fmt.Sprint("kind ", api.KiIf), fmt.Sprint("kind ", api.KiWhile), fmt.Sprint("kind ", api.KiPrint)} {
		if seen[s] < 5 {
			t.Error("too few cases:", s, seen)
		}
	}
}

package slice_test

import (
	"slices"
	"strings"
	"testing"

	"sleuth/api"
	"sleuth/machine"
	"sleuth/slice"
)

// P5.8: what a print printed, and the outcome.
func TestPrinted(t *testing.T) {
	for _, c := range []struct {
		text   string
		inputs []int64
		fuel   int
		n      int
		want   []int64
		end    api.End
	}{
		{example, []int64{3, 9}, 999, 8, []int64{6}, api.EnDone},
		{example, []int64{3, 9}, 999, 9, []int64{6}, api.EnDone},
		{example, []int64{4, 9}, 999, 8, []int64{10}, api.EnDone},
		{example, []int64{4, 9}, 999, 9, []int64{24}, api.EnDone},
		{example, []int64{3, 9}, 999, 10, []int64{9}, api.EnDone},
		{main("let x = 3; while x { print x; x = x - 1; print 0 - x; } print 7;"), nil, 999, 2, []int64{3, 2, 1}, api.EnDone},
		{main("let x = 3; while x { print x; x = x - 1; print 0 - x; } print 7;"), nil, 999, 4, []int64{-2, -1, 0}, api.EnDone},
		{main("let x = 3; while x { print x; x = x - 1; print 0 - x; } print 7;"), nil, 999, 5, []int64{7}, api.EnDone},
		{main("print 1; print 1; if 0 { print 2; }"), nil, 999, 1, []int64{1}, api.EnDone},
		{main("print 1; print 1; if 0 { print 2; }"), nil, 999, 3, nil, api.EnDone},
		{"fun f(n) { print n; if n { f(n - 1); } print n; } fun main() { f(2); }", nil, 999, 0, []int64{2, 1, 0}, api.EnDone},
		{"fun f(n) { print n; if n { f(n - 1); } print n; } fun main() { f(2); }", nil, 999, 3, []int64{0, 1, 2}, api.EnDone},
		{main("let g = fn (a) { print a; return a; }; print g.(4) + g.(5);"), nil, 999, 1, []int64{4, 5}, api.EnDone},
		{main("let g = fn (a) { print a; return a; }; print g.(4) + g.(5);"), nil, 999, 3, []int64{9}, api.EnDone},
		// The runs that come to something else.
		{main("print 5; throw 1;"), nil, 999, 0, []int64{5}, api.EnThrown},
		{main("print 5; assert 0;"), nil, 999, 0, []int64{5}, api.EnAssert},
		{main("print 5; print input;"), nil, 999, 0, []int64{5}, api.EnFault},
		{main("print 5; print input;"), nil, 999, 1, nil, api.EnFault},
		{main("let o = 2; while 1 { print o; if o { o = 0; } else { o = new(0); } }"), nil, 999, 2, []int64{2, 0}, api.EnFault},
		{main("while 1 { print 4; }"), nil, 10, 1, []int64{4, 4}, api.EnFuel},
		{main("while 1 { print 4; }"), nil, 9, 1, []int64{4, 4}, api.EnFuel},
		{main("while 1 { print 4; }"), nil, 8, 1, []int64{4}, api.EnFuel},
		{main("while 1 { print 4; }"), nil, api.MaxSteps, 1, slices.Repeat([]int64{4}, api.MaxOut), api.EnFault},
		{main("while 1 { if 0 { print 4; } }"), nil, api.MaxSteps, 2, nil, api.EnFuel},
		{main("print 4;"), nil, 0, 0, nil, api.EnFuel},
		{main("print 4;"), nil, 1, 0, nil, api.EnFuel},
		{main("print 4;"), nil, 2, 0, []int64{4}, api.EnFuel},
		{main("print 4;"), nil, 4, 0, []int64{4}, api.EnDone},
	} {
		p, g := parsed(t, c.text), api.Given{Inputs: c.inputs}
		l, o, e := slice.Printed(p, g, c.fuel, c.n)
		want, _ := machine.Run(p, g, c.fuel)
		if e != api.OK || !slices.Equal(l, c.want) || o.End != c.end || !sameOutcome(o, want) {
			t.Errorf("Printed(%s, %v, %d, %d): error %d, %v, %+v, want %v, %+v", c.text, c.inputs, c.fuel, c.n, e, l, o, c.want, want)
		}
	}
}

// P5.8: picks make no difference.
func TestPicks(t *testing.T) {
	p := parsed(t, example)
	for _, picks := range [][]uint8{nil, {0}, {255, 7, 1}, make([]uint8, api.MaxSteps)} {
		g := api.Given{Inputs: []int64{3, 9}, Picks: picks}
		l, o, e := slice.Printed(p, g, 999, 8)
		if e != api.OK || !slices.Equal(l, []int64{6}) || !slices.Equal(o.Out, []int64{6, 6, 9}) {
			t.Errorf("%d picks: error %d, %v, %+v", len(picks), e, l, o)
		}
		if is, e := slice.Agree(p, slice.Fine, []int{8}, g, 999); e != api.OK || !is {
			t.Errorf("%d picks: error %d, %t", len(picks), e, is)
		}
	}
}

// P5.8: the arguments that Printed refuses.
func TestPrintedRefuses(t *testing.T) {
	p := parsed(t, example)
	g := api.Given{Inputs: []int64{3, 9}}
	check := func(what string, g api.Given, fuel, n int, want api.Errno) {
		if l, o, e := slice.Printed(p, g, fuel, n); e != want || len(l) > 0 || !sameOutcome(o, api.Outcome{}) {
			t.Errorf("%s: error %d, %v, %+v, want %d", what, e, l, o, want)
		}
	}
	for n := range 8 {
		check("no print", g, 999, n, api.ErrArg)
	}
	for _, n := range []int{-1, 11, 12, 1<<63 - 1, -1 << 63} {
		check("no statement", g, 999, n, api.ErrArg)
	}
	for _, fuel := range []int{-1, api.MaxSteps + 1, 1<<63 - 1, -1 << 63} {
		check("fuel", g, fuel, 8, api.ErrArg)
		check("fuel, too much given", tooMuch()[0], fuel, 8, api.ErrArg)
	}
	for _, g := range tooMuch() {
		check("too much given", g, 999, 8, api.ErrLimit)
		check("too much given, fuel 0", g, 0, 8, api.ErrLimit)
		check("too much given, no print", g, 999, 0, api.ErrArg)
		check("too much given, no statement", g, 999, -1, api.ErrArg)
	}
}

// tooMuch is what is more than a run may be given.
func tooMuch() []api.Given {
	return []api.Given{
		{Inputs: make([]int64, api.MaxGiven+1)},
		{Clocks: make([]int64, api.MaxGiven+1)},
		{Picks: make([]uint8, api.MaxSteps+1)},
	}
}

// P5.8: as much as a run may be given.
func TestAsMuchGiven(t *testing.T) {
	p := parsed(t, main("let x = 0; let n = 1024; while n { x = x + input + clock; n = n - 1; } print x;"))
	g := api.Given{Inputs: slices.Repeat([]int64{2}, api.MaxGiven), Clocks: slices.Repeat([]int64{3}, api.MaxGiven), Picks: make([]uint8, api.MaxSteps)}
	l, o, e := slice.Printed(p, g, api.MaxSteps, 5)
	if e != api.OK || !slices.Equal(l, []int64{5 * api.MaxGiven}) || o.End != api.EnDone {
		t.Errorf("error %d, %v, %+v", e, l, o)
	}
	if is, e := slice.Agree(p, slice.Coarse, []int{5}, g, api.MaxSteps); e != api.OK || !is {
		t.Errorf("error %d, %t", e, is)
	}
}

// P5.8, P5.9: the whole program and the slice agree, and so they do if the whole program comes to something else.
func TestAgree(t *testing.T) {
	for _, c := range []struct {
		text string
		fuel int
		end  api.End
	}{
		{example, 999, api.EnDone},
		{example, 0, api.EnFuel},
		{example, 30, api.EnFuel},
		{setting, api.MaxSteps, api.EnDone},
		{main(""), 2, api.EnDone},
		{main("print 1; throw 2;"), 99, api.EnThrown},
		{main("print 1; print 1 / 0; print 2;"), 99, api.EnFault},
		{main("print 1; assert 0;"), 99, api.EnAssert},
		{main("print 1; while 1 { }"), api.MaxSteps, api.EnFuel},
		{"fun f(a) { if a > 1 { throw a; } return a; } " + main("let x = 3; while x { try { print f(x); } catch e { print 0 - e; } x = x - 1; } let y = 1 / (x + 1); print y;"), 999, api.EnDone},
	} {
		p, g := parsed(t, c.text), api.Given{Inputs: []int64{3, 9}}
		if o, e := machine.Run(p, g, c.fuel); e != api.OK || o.End != c.end {
			t.Fatalf("%s: error %d, %+v", c.text, e, o)
		}
		prints := printsOf(p)
		for _, k := range kinds {
			for _, of := range [][]int{nil, prints, prints[:min(1, len(prints))], until(len(prints))} {
				if is, e := slice.Agree(p, k, of, g, c.fuel); e != api.OK || !is {
					t.Errorf("Agree(%s, %d, %v, %d): error %d, %t", c.text, k, of, c.fuel, e, is)
				}
			}
		}
	}
}

// P5.8: the arguments that Agree refuses.
func TestAgreeRefuses(t *testing.T) {
	p := parsed(t, example)
	check := func(what string, k slice.Kind, of []int, g api.Given, fuel int, want api.Errno) {
		if is, e := slice.Agree(p, k, of, g, fuel); e != want || is {
			t.Errorf("%s: error %d, %t, want %d", what, e, is, want)
		}
	}
	for _, fuel := range []int{-1, api.MaxSteps + 1, 1<<63 - 1, -1 << 63} {
		check("fuel", slice.Fine, []int{8}, api.Given{}, fuel, api.ErrArg)
		check("fuel, too much given", slice.Fine, []int{8}, tooMuch()[0], fuel, api.ErrArg)
	}
	for _, g := range tooMuch() {
		check("too much given", slice.Coarse, []int{8}, g, 999, api.ErrLimit)
		check("too much given, nothing asked", slice.Coarse, nil, g, 0, api.ErrLimit)
		check("too much given, no kind", 2, []int{8}, g, 999, api.ErrArg)
		check("too much given, no list", slice.Fine, []int{8, 8}, g, 999, api.ErrArg)
	}
}

// P0.4: the slice of a print has none of what the print does not need, and prints the same with every input.
func TestSliceOfLoops(t *testing.T) {
	p := parsed(t, main(`let n = input; let a = 0; let b = 1; let odd = 0; let o = new(2);
		while n { if n % 2 { odd = odd + 1; o[1] = odd; } else { b = b * 2; } a = a + n; n = n - 1; }
		print a; print b; print odd; print o[1];`))
	for k, want := range map[int]string{
		12: "fun main() { let n = input; let a = 0; while n { a = a + n; n = n - 1; } print a; }",
		13: "fun main() { let n = input; let b = 1; while n { if n % 2 { } else { b = b * 2; } n = n - 1; } print b; }",
		14: "fun main() { let n = input; let odd = 0; while n { if n % 2 { odd = odd + 1; } n = n - 1; } print odd; }",
	} {
		q, l := cut(t, p, slice.Fine, k)
		if got := written(t, q); got != want {
			t.Errorf("%d: %s, want %s", k, strings.TrimSpace(got), want)
		}
		for n := range int64(9) {
			g := api.Given{Inputs: []int64{n}}
			a, whole, e := slice.Printed(p, g, 999, k)
			b, part, f := slice.Printed(q, g, 999, slices.Index(l, k))
			if e != api.OK || f != api.OK || len(a) != 1 || !slices.Equal(a, b) || part.Steps >= whole.Steps {
				t.Errorf("%d with %d: errors %d and %d, %v and %v, %d and %d steps", k, n, e, f, a, b, whole.Steps, part.Steps)
			}
		}
	}
}

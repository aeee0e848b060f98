package slice_test

import (
	"slices"
	"strings"
	"testing"

	"sleuth/api"
	"sleuth/slice"
)

// example is the program of the chapter's examples.
const example = "fun main() { let a = input; let b = input; let s = 0; let m = 1; while a > 0 { s = s + a; m = m * a; a = a - 1; } print s; print m; print b; }"

// setting is a program with definitions that do not reach its print.
const setting = "fun main() { let x = 1; x = 2; print x; x = 3; }"

// P5.4: what the statements of a program need.
func TestNeeds(t *testing.T) {
	for _, c := range []struct {
		text string
		kind slice.Kind
		want string
	}{
		{example, slice.Coarse, "1, 0, , , 0 7, 0 2 4 7, 0 3 4 7, 0 4, 2 5, 3 6, 1"},
		{example, slice.Fine, "1, 0, , , 0 7, 0 2 4 7, 0 3 4 7, 0 4, 2 5, 3 6, 1"},
		{setting, slice.Coarse, ", 0, 0 1 3, 0"},
		{setting, slice.Fine, ", 0, 0 1, 0"},
		{main(""), slice.Fine, ""},
		{main("print 1;"), slice.Fine, ""},
		// The statement itself is not told, though rules 2, 4, 6 and 7 may put it.
		{main("let x = 1; while 1 { x = x + input; }"), slice.Fine, ", , 0 1"},
		{"fun main() { main(); return 1; }", slice.Coarse, "1, 0"},
		// Rules 5, 6 and 7 together: what f is called for, and how it is left.
		{"fun f(a) { if a { throw a; } print a; } fun main() { try { f(1); } catch e { print e; } print 2; }", slice.Fine, "1 4, 0 4, 1 4, 4, 1 3, 3 4, 4"},
		{main("let x = 1; let g = fn () { print x; return 2; }; x = 3; print g.();"), slice.Fine, ", 0, 1 0 3 5, 1 5, 0, 1 3"},
	} {
		var want [][]int
		if c.want != "" || c.text != main("") {
			for _, s := range strings.Split(c.want, ",") {
				l := numbers(s)
				slices.Sort(l)
				want = append(want, l)
			}
		}
		if l, e := slice.Needs(parsed(t, c.text), c.kind); e != api.OK || !sameLists(l, want) {
			t.Errorf("Needs(%s, %d): error %d, %v, want %v", c.text, c.kind, e, l, want)
		}
	}
}

// P5.5: slices backwards and forwards.
func TestBackwardForward(t *testing.T) {
	far := "fun f(a) { return a; } fun h(o) { o[0] = 1; } fun main() { let o = new(1); let p = new(1); h(p); print f(2); print o[0]; print 3; }"
	for _, c := range []struct {
		text              string
		kind              slice.Kind
		of                string
		backward, forward string
	}{
		{example, slice.Coarse, "8", "0 1 2 4 5 7 8", "8"},
		{example, slice.Fine, "9", "0 1 3 4 6 7 9", "9"},
		{example, slice.Coarse, "10", "0 1 10", "10"},
		{example, slice.Coarse, "3", "3", "3 6 9"},
		{example, slice.Fine, "0", "0 1", "0 1 4 5 6 7 8 9 10"},
		{example, slice.Fine, "7", "0 1 4 7", "4 5 6 7 8 9"},
		{example, slice.Coarse, "8 10", "0 1 2 4 5 7 8 10", "8 10"},
		{example, slice.Coarse, "2 3", "2 3", "2 3 5 6 8 9"},
		{example, slice.Coarse, "", "", ""},
		{example, slice.Fine, "", "", ""},
		{setting, slice.Coarse, "2", "0 1 2 3", "2"},
		{setting, slice.Fine, "2", "0 1 2", "2"},
		{setting, slice.Coarse, "3", "0 3", "2 3"},
		{setting, slice.Fine, "3", "0 3", "3"},
		{far, slice.Fine, "5", "0 5", "0 5"}, // rule 7
		{far, slice.Fine, "6", "1 2 3 4 6", "6"},
		{far, slice.Fine, "7", "7", "7"},
		{far, slice.Fine, "1", "1 3 4", "1 6"},
		{far, slice.Fine, "0", "0 5", "0 5"},
	} {
		p := parsed(t, c.text)
		of := numbers(c.of)
		if l := backward(t, p, c.kind, of...); !slices.Equal(l, numbers(c.backward)) {
			t.Errorf("Backward(%s, %d, %s): %v, want %s", c.text, c.kind, c.of, l, c.backward)
		}
		if l := forward(t, p, c.kind, of...); !slices.Equal(l, numbers(c.forward)) {
			t.Errorf("Forward(%s, %d, %s): %v, want %s", c.text, c.kind, c.of, l, c.forward)
		}
	}
}

// P5.5: what slices have in common, and what one has that another one has not.
func TestChopDice(t *testing.T) {
	for _, c := range []struct {
		text       string
		kind       slice.Kind
		a, b       string
		chop, dice string // Chop from a to b; Dice of the bad a and the good b
	}{
		{example, slice.Coarse, "7", "9", "4 6 7 9", ""},
		{example, slice.Coarse, "3", "8", "", "3"},
		{example, slice.Coarse, "9", "8", "", "3 6 9"},
		{example, slice.Fine, "8 9", "10", "", "2 3 4 5 6 7 8 9"},
		{example, slice.Coarse, "0", "10", "0 1 10", ""},
		{example, slice.Coarse, "2 3", "8 9", "2 3 5 6 8 9", ""},
		{example, slice.Coarse, "9", "9", "9", ""},
		{example, slice.Coarse, "", "9", "", ""},
		{example, slice.Coarse, "9", "", "", "0 1 3 4 6 7 9"},
		{example, slice.Fine, "", "", "", ""},
		{setting, slice.Coarse, "3", "2", "2 3", ""},
		{setting, slice.Fine, "3", "2", "", "3"},
		{setting, slice.Coarse, "2", "3", "", "1 2"},
	} {
		p := parsed(t, c.text)
		if l, e := slice.Chop(p, c.kind, numbers(c.a), numbers(c.b)); e != api.OK || !slices.Equal(l, numbers(c.chop)) {
			t.Errorf("Chop(%s, %d, %s, %s): error %d, %v, want %s", c.text, c.kind, c.a, c.b, e, l, c.chop)
		}
		if l, e := slice.Dice(p, c.kind, numbers(c.a), numbers(c.b)); e != api.OK || !slices.Equal(l, numbers(c.dice)) {
			t.Errorf("Dice(%s, %d, %s, %s): error %d, %v, want %s", c.text, c.kind, c.a, c.b, e, l, c.dice)
		}
	}
}

// P5.6: what no print depends on, and which prints depend on something in common.
func TestBarrenGroups(t *testing.T) {
	for _, c := range []struct {
		text   string
		kind   slice.Kind
		barren string
		groups string
	}{
		{example, slice.Coarse, "", "8 9 10"},
		{example, slice.Fine, "", "8 9 10"},
		{setting, slice.Coarse, "", "2"},
		{setting, slice.Fine, "3", "2"},
		{main(""), slice.Fine, "", ""},
		{main("let x = 1; x = 2;"), slice.Coarse, "0 1", ""},
		{main("let x = 1; x = 2;"), slice.Fine, "0 1", ""},
		{main("let a = 1; let b = 2; if b { b = 3; } print a;"), slice.Coarse, "1 2 3", "4"},
		{main("let a = 1; let b = 2; print a; print b; print a; print 3;"), slice.Coarse, "", "2 4, 3, 5"},
		{main("let a = 1; let b = 2; print a; print b; print a + b;"), slice.Coarse, "", "2 3 4"},
		{main("let a = 1; let b = 2; let c = 3; print a; print c; print b; print a + b;"), slice.Fine, "", "3 5 6, 4"},
		{main("let a = 1; let b = 2; let c = 3; let d = 4; print d; print c; print b; print a; print d + a; print c + b;"), slice.Fine, "", "4 7 8, 5 6 9"},
		{main("print 1; print 2; print 3;"), slice.Fine, "", "0, 1, 2"},
		{main("if 1 { print 1; print 2; } print 3;"), slice.Fine, "", "1 2, 3"},
		// A print on which another one depends belongs to it.
		{"fun f() { throw 1; } fun main() { print f(); print 2; }", slice.Fine, "", "1 2"},
		// So does what is in functions and closures.
		{"fun f() { print 1; } fun main() { f(); let g = fn () { print 2; }; g.(); let x = 3; print 4; }", slice.Fine, "5", "0, 3, 6"},
		// An input that nobody prints orders the others.
		{main("let a = input; let b = input; print a; print b; let c = clock;"), slice.Fine, "4", "2 3"},
	} {
		p := parsed(t, c.text)
		if l, e := slice.Barren(p, c.kind); e != api.OK || !slices.Equal(l, numbers(c.barren)) {
			t.Errorf("Barren(%s, %d): error %d, %v, want %s", c.text, c.kind, e, l, c.barren)
		}
		var want [][]int
		for _, s := range strings.Split(c.groups, ",") {
			if l := numbers(s); len(l) > 0 {
				want = append(want, l)
			}
		}
		if l, e := slice.Groups(p, c.kind); e != api.OK || !sameLists(l, want) {
			t.Errorf("Groups(%s, %d): error %d, %v, want %v", c.text, c.kind, e, l, want)
		}
	}
}

// P5.7: the program of a slice, and the numbers of its statements.
func TestProgram(t *testing.T) {
	caught := main("let x = 1; try { x = 2; throw 3; } catch e { print e; } print x;")
	for _, c := range []struct {
		text    string
		kind    slice.Kind
		of      string
		want    string
		numbers string
	}{
		{setting, slice.Fine, "2", "fun main() { let x = 1; x = 2; print x; }", "0 1 2"},
		{setting, slice.Coarse, "2", setting, "0 1 2 3"},
		{setting, slice.Fine, "3", "fun main() { let x = 1; x = 3; }", "0 3"},
		{example, slice.Coarse, "8", "fun main() { let a = input; let b = input; let s = 0; while a > 0 { s = s + a; a = a - 1; } print s; }", "0 1 2 4 5 7 8"},
		{example, slice.Coarse, "", "fun main() { }", ""},
		{main(""), slice.Fine, "", "fun main() { }", ""},
		{"fun f(a, b) { print a; } " + main("print 1;"), slice.Fine, "", "fun f(a, b) { } fun main() { }", ""},
		{"fun f(a, b) { print a; } " + main("print 1;"), slice.Fine, "1", "fun f(a, b) { } fun main() { print 1; }", "1"},
		{"fun f(a, b) { print a; } " + main("print 1; f(1, 2);"), slice.Fine, "0", "fun f(a, b) { print a; } fun main() { f(1, 2); }", "0 2"},
		{main("let x = input; if x { print 1; } else { print 2; }"), slice.Fine, "2", "fun main() { let x = input; if x { print 1; } }", "0 1 2"},
		{main("let x = input; if x { print 1; } else { print 2; }"), slice.Fine, "3", "fun main() { let x = input; if x { } else { print 2; } }", "0 1 3"},
		{main("let x = 1; let g = fn (a) { let b = a; print b; return x; }; print g.(2);"), slice.Coarse, "5", "fun main() { let x = 1; let g = fn (a) { return x; }; print g.(2); }", "0 1 4 5"},
		{main("let x = 1; let g = fn () { x = 2; }; print 3; g.();"), slice.Fine, "1", "fun main() { let x = 1; let g = fn () { }; }", "0 1"},
		{caught, slice.Fine, "5", "fun main() { let x = 1; try { x = 2; throw 3; } catch e { } print x; }", "0 1 2 3 5"},
		{caught, slice.Fine, "4", "fun main() { try { throw 3; } catch e { print e; } }", "1 3 4"},
	} {
		q, l := cut(t, parsed(t, c.text), c.kind, numbers(c.of)...)
		if got := written(t, q); got != c.want || !slices.Equal(l, numbers(c.numbers)) {
			t.Errorf("Program(%s, %d, %s): %s, %v, want %s, %s", c.text, c.kind, c.of, got, l, c.want, c.numbers)
		}
	}
}

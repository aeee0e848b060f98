package slice_test

import (
	"slices"
	"strings"
	"testing"

	"sleuth/api"
	"sleuth/slice"
)

// P5.2: what the statements of a program do by themselves.
func TestEffects(t *testing.T) {
	p := parsed(t, `fun f(a, o) { let b = a + a * o[0]; o[b] = input - clock; if b { throw b; } else { return h(f(b, o)) + h(0); } }
		fun h(a) { assert !a; }
		fun main() {
			let o = new(2); let x = 5; let g = fn (c) { c = c + x; x = h(c); };
			while g.(x) { try { f(x, o); } catch e { x = e; } }
			print h(f(1, o)) + h(x); let k = fn () { return input; }.(); len(o); clock;
		}`)
	want := []slice.Effect{
		{Unit: 0, Parent: -1, Reads: []string{"a", "o"}, Sets: "b", Loads: true},
		{Unit: 0, Parent: -1, Reads: []string{"o", "b"}, Stores: true, Inputs: true, Clocks: true},
		{Unit: 0, Parent: -1, Reads: []string{"b"}},
		{Unit: 0, Parent: 2, Reads: []string{"b"}, Jumps: true, Throws: true},
		{Unit: 0, Parent: 2, Reads: []string{"b", "o"}, Calls: []int{0, 1}, Jumps: true, Throws: true},
		{Unit: 1, Parent: -1, Reads: []string{"a"}},
		{Unit: 2, Parent: -1, Sets: "o"},
		{Unit: 2, Parent: -1, Sets: "x"},
		{Unit: 2, Parent: -1, Reads: []string{"x"}, Sets: "g"},
		{Unit: 3, Parent: 8, Reads: []string{"c", "x"}, Sets: "c"},
		{Unit: 3, Parent: 8, Reads: []string{"c"}, Sets: "x", Calls: []int{1}},
		{Unit: 2, Parent: -1, Reads: []string{"g", "x"}, Applies: true},
		{Unit: 2, Parent: 11, Sets: "e"},
		{Unit: 2, Parent: 12, Reads: []string{"x", "o"}, Calls: []int{0}, Throws: true},
		{Unit: 2, Parent: 12, Reads: []string{"e"}, Sets: "x"},
		{Unit: 2, Parent: -1, Reads: []string{"o", "x"}, Calls: []int{0, 1}, Throws: true},
		{Unit: 2, Parent: -1, Sets: "k", Applies: true},
		{Unit: 4, Parent: 16, Inputs: true, Jumps: true},
		{Unit: 2, Parent: -1, Reads: []string{"o"}},
		{Unit: 2, Parent: -1, Clocks: true},
	}
	l, e := slice.Effects(p)
	if e != api.OK || len(l) != len(want) {
		t.Fatalf("error %d, %d effects", e, len(l))
	}
	for n := range want {
		if !sameEffect(l[n], want[n]) {
			t.Errorf("statement %d: %+v, want %+v", n, l[n], want[n])
		}
	}
	if l, e := slice.Effects(parsed(t, main(""))); e != api.OK || len(l) > 0 {
		t.Errorf("without statements: error %d, %v", e, l)
	}
}

// P5.2: what stands inside a closure, or inside a statement, is not done by the statement around it.
func TestOwnExpressions(t *testing.T) {
	p := parsed(t, "fun f() { throw 1; } "+main("let o = new(1); let g = fn (a) { o[0] = input; print clock + f() + o[0]; a.(); return 1; }; if 1 { o[0] = input; print clock + f() + o[0]; g.(1); return 1; }"))
	l, e := slice.Effects(p)
	if e != api.OK {
		t.Fatalf("error %d", e)
	}
	for n, want := range map[int]slice.Effect{
		2: {Unit: 1, Parent: -1, Reads: []string{"o"}, Sets: "g"},
		3: {Unit: 2, Parent: 2, Reads: []string{"o"}, Stores: true, Inputs: true},
		4: {Unit: 2, Parent: 2, Reads: []string{"o"}, Loads: true, Clocks: true, Calls: []int{0}, Throws: true},
		5: {Unit: 2, Parent: 2, Reads: []string{"a"}, Applies: true, Throws: true},
		6: {Unit: 2, Parent: 2, Jumps: true},
		7: {Unit: 1, Parent: -1},
	} {
		if !sameEffect(l[n], want) {
			t.Errorf("statement %d: %+v, want %+v", n, l[n], want)
		}
	}
}

// P5.2: the functions of calls are told in ascending order, whatever the order of the calls.
func TestCalls(t *testing.T) {
	p := parsed(t, "fun a() { } fun main() { print c() + a() + c(); print main(); print b() + fn () { return a(); }.(); } fun b() { } fun c() { }")
	l, e := slice.Effects(p)
	if e != api.OK || !slices.Equal(l[0].Calls, []int{0, 3}) || !slices.Equal(l[1].Calls, []int{1}) || !slices.Equal(l[2].Calls, []int{2}) || !slices.Equal(l[3].Calls, []int{0}) {
		t.Errorf("error %d, %+v", e, l)
	}
}

// P5.2: which functions may throw, and whether closures may: as few as follow from what the statements do.
func TestThrowing(t *testing.T) {
	for text, want := range map[string]string{
		main(""):                             "no/no",
		main("throw 1;"):                     "yes/no",
		main("assert 0;"):                    "no/no",
		main("try { throw 1; } catch e { }"): "yes/no",
		main("while 0 { if 0 { } else { throw 1; } }"):                                                        "yes/no",
		"fun a() { b(); } fun b() { print 1 + c(); } fun c() { throw 1; } fun main() { }":                     "yes yes yes no/no",
		"fun c() { throw 1; } fun b() { if c() { } } fun a() { return -b(); } fun main() { a(); }":            "yes yes yes yes/no",
		"fun a() { b(); } fun b() { a(); } fun main() { a(); b(); }":                                          "no no no/no",
		"fun a() { b(); } fun b() { a(); if 1 { throw 1; } } fun main() { try { a(); } catch e { } }":         "yes yes yes/no",
		"fun f(g) { g.(); } fun h() { } fun main() { let k = fn () { throw 1; }; }":                           "yes no no/yes",
		"fun c() { throw 1; } fun f(g) { g.(); } fun main() { let k = fn () { c(); }; f(k); }":                "yes yes yes/yes",
		"fun f(g) { g.(); } fun main() { let k = fn () { f(0); }; let j = fn () { k.(); }; f(k); }":           "no no/no",
		"fun f(g) { g.(); } fun main() { let k = fn () { f(0); }; let j = fn () { throw 1; }; }":              "yes no/yes",
		"fun f(g) { g.(); } fun main() { f(1); }":                                                             "no no/no",
		"fun h() { fn () { }.(); } fun main() { fn () { if 1 { try { } catch e { throw e; } } }; }":           "yes no/yes",
		"fun t() { throw 1; } fun main() { let g = fn () { let h = t(); }; } fun x(y) { y.(1, 2); }":          "yes no yes/yes",
		"fun t() { throw 1; } fun main() { let g = fn () { return 1; }; t(); } fun x(y) { return y.(1, 2); }": "yes yes no/no",
	} {
		p := parsed(t, text)
		functions, closures, e := slice.Throwing(p)
		told := map[bool]string{true: "yes", false: "no"}
		var l []string
		for _, is := range functions {
			l = append(l, told[is])
		}
		if got := strings.Join(l, " ") + "/" + told[closures]; e != api.OK || got != want {
			t.Errorf("Throwing(%s): error %d, %s, want %s", text, e, got, want)
		}
	}
}

package slice_test

import (
	"slices"
	"strings"
	"testing"

	"sleuth/api"
	"sleuth/lang"
	"sleuth/slice"
)

// P5.1: programs with one thread, without locks, are in scope.
func TestScope(t *testing.T) {
	for _, text := range []string{
		main(""),
		main("print 1;"),
		"fun f(a) { return a; } fun main() { let g = fn (b) { b = f(b); return b; }; try { throw g.(1); } catch e { print e; } }",
		main("let o = new(1); o[0] = input; while len(o) { if clock { assert o[0]; } else { 1; } }"),
	} {
		if e := slice.Scope(parsed(t, text)); e != api.OK {
			t.Errorf("%s: error %d", text, e)
		}
	}
}

// P5.1: a thread or a lock anywhere puts a program out of scope.
func TestOutOfScope(t *testing.T) {
	f := "fun f() { return 1; } "
	for _, text := range []string{
		main("lock new(0);"), main("unlock new(0);"), main("join 0;"), f + main("spawn f();"),
		f + main("print 1 + spawn f();"), f + main("if !spawn f() { }"), f + main("new(1)[spawn f()] = 2;"), f + main("fn (a) { }.(spawn f());"),
		main("if 1 { lock new(0); }"), main("if 1 { } else { join 0; }"), main("while 1 { join 0; }"),
		main("try { unlock new(0); } catch e { }"), main("try { } catch e { join e; }"),
		main("let g = fn () { lock new(0); };"), f + main("print fn () { return spawn f(); }.();"),
		"fun unused() { join 0; } " + main("print 1;"), main("print 1; while 0 { if 1 { } else { try { } catch e { join 0; } } }"),
	} {
		p := parsed(t, text)
		if e := lang.Check(p); e != api.OK {
			t.Fatalf("%s is not correct: error %d", text, e)
		}
		if e := slice.Scope(p); e != api.ErrScope {
			t.Errorf("%s: error %d", text, e)
		}
	}
}

// incorrect is programs that are not correct, with the errors of lang.Check.
func incorrect(t *testing.T) map[api.Errno][]api.Program {
	one := func(l ...api.Node) api.Program { return api.Program{Funcs: []api.Func{{Name: "main", Body: l}}} }
	deep := api.Node{Kind: api.KiNum}
	for range api.MaxDepth {
		deep = api.Node{Kind: api.KiUnary, Text: "-", Subs: []api.Node{deep}}
	}
	endless := api.Node{Kind: api.KiIf, Subs: []api.Node{{Kind: api.KiNum}}, Body: make([]api.Node, 1)}
	endless.Body[0] = endless
	return map[api.Errno][]api.Program{
		api.ErrName:  {{}, parsed(t, "fun f() { }"), parsed(t, main("print x;")), parsed(t, main("lock x;")), parsed(t, main("lock new(0); f();"))},
		api.ErrTwice: {parsed(t, main("let x = 1; let x = 2;")), parsed(t, "fun main() { } fun main() { }"), parsed(t, main("join 0; let x = 1; let x = 2;"))},
		api.ErrArg:   {one(api.Node{}), one(api.Node{Kind: 99}), one(api.Node{Kind: api.KiPrint}), one(api.Node{Kind: api.KiNum}), parsed(t, "fun main(a) { }"), parsed(t, "fun f(a) { } fun main() { lock 1; f(); }"), one(api.Node{Kind: api.KiLock})},
		api.ErrLimit: {one(make([]api.Node, api.MaxNodes+1)...), one(api.Node{Kind: api.KiPrint, Subs: []api.Node{deep}}), one(endless), {Funcs: make([]api.Func, api.MaxFuncs+1)}},
	}
}

// P5.1: the error of lang.Check comes first.
func TestScopeOfIncorrect(t *testing.T) {
	for want, l := range incorrect(t) {
		for i, p := range l {
			if e := lang.Check(p); e != want {
				t.Fatalf("program %d for %d: Check returns %d", i, want, e)
			}
			if e := slice.Scope(p); e != want {
				t.Errorf("program %d for %d: error %d", i, want, e)
			}
		}
	}
}

// P5.1: the functions are units, and behind them the closures, in the order of the text.
func TestUnits(t *testing.T) {
	for text, want := range map[string]struct {
		units int
		of    string
	}{
		main(""):                                 {1, ""},
		"fun f() { } fun main() { } fun h() { }": {3, ""},
		"fun f() { print 1; } fun main() { print 2; print 3; } fun h() { print 4; }":                  {3, "0 1 1 2"},
		main("if 1 { print 1; } else { print 2; } while 1 { try { print 3; } catch e { print 4; } }"): {1, "0 0 0 0 0 0 0"},
		main("let g = fn () { print 1; if 2 { print 3; } }; print 4;"):                                {2, "0 1 1 1 0"},
		main("let g = fn () { };"): {2, "0"},
		"fun main() { fn () { print 1; }; } fun f() { fn () { print 2; }; print 3; }":                                                                              {4, "0 2 1 3 1"},
		main("if fn () { return 1; }.() { fn () { print 2; }; } else { fn () { print 3; }; }"):                                                                     {4, "0 1 0 2 0 3"},
		main("fn (a) { return a; }.(fn () { }, fn () { print 1; }); fn () { print 2; }; print 3;"):                                                                 {5, "0 1 3 0 4 0"},
		main("while fn () { print 1; }.() { print 2; fn () { print 3; }; } try { } catch e { fn () { }; }"):                                                        {4, "0 1 0 0 2 0 0"},
		"fun f(a) { print a; let g = fn (b) { return b; }; } fun main() { if fn (c) { return c; }.(fn () { print 1; }) { let h = fn () { }; } else { print 2; } }": {6, "0 0 2 1 3 4 1 1"},
	} {
		units, of, e := slice.Units(parsed(t, text))
		if e != api.OK || units != want.units || !slices.Equal(of, numbers(want.of)) {
			t.Errorf("Units(%s): error %d, %d, %v, want %d, %s", text, e, units, of, want.units, want.of)
		}
	}
}

// P5.1: as many units as the limits allow.
func TestManyUnits(t *testing.T) {
	s := main(strings.Repeat("fn () { }; ", api.MaxNodes/2))
	units, of, e := slice.Units(parsed(t, s))
	if e != api.OK || units != 1+api.MaxNodes/2 || len(of) != api.MaxNodes/2 || slices.Max(of) != 0 {
		t.Errorf("error %d, %d units, %d statements", e, units, len(of))
	}
}

package lang_test

import (
	"slices"
	"strconv"
	"strings"
	"testing"

	"sleuth/api"
	"sleuth/lang"
)

// lets returns the text of so many declarations, x0 and so on.
func lets(count int) string {
	var s strings.Builder
	for i := range count {
		s.WriteString("let x" + strconv.Itoa(i) + " = 0; ")
	}
	return s.String()
}

// P1.3: the first error of the right function, and of the right place in it.
func TestCheck(t *testing.T) {
	for text, want := range map[string]api.Errno{
		"fun main() { }":                             api.OK,
		"fun main() { print y; }":                    api.ErrName,
		"fun main() { let x = 1; let x = 2; }":       api.ErrTwice,
		"":                                           api.ErrName,
		"fun f() { }":                                api.ErrName,
		"fun main(a) { }":                            api.ErrArg,
		"fun f() { } fun f(a) { }":                   api.ErrTwice,
		"fun f(a, a) { } fun f() { }":                api.ErrTwice,
		"fun g() { y; } fun f() { }":                 api.ErrName,
		"fun g() { y; } fun main(a) { }":             api.ErrArg,
		"fun main() { y; } fun f(a, a) { }":          api.ErrName,
		"fun f(a, a) { } fun main() { y; }":          api.ErrTwice,
		"fun f(a, b) { print a + b; } fun main() {}": api.OK,
		"fun f(a, b, a) { y; } fun main() { }":       api.ErrTwice,
		// functions and variables have names of different sorts
		"fun main() { let main = 1; print main; }": api.OK,
		"fun f() { } fun main() { let f = f(); }":  api.OK,
		"fun f() { } fun main() { print f; }":      api.ErrName,
		"fun main() { let g = 1; g(); }":           api.ErrName,
		"fun f(f) { f(f); } fun main() { f(0); }":  api.OK,
		// the name of a let counts behind its expression
		"fun main() { let x = x; }":               api.ErrName,
		"fun main() { let x = fn () { x; }; }":    api.ErrName,
		"fun main() { let x = fn (x) { x; }; }":   api.ErrTwice,
		"fun main() { let x = fn (y) { y; }; x;}": api.OK,
		"fun main() { let x = 1; let x = y; }":    api.ErrName,
		"fun main() { let x = 1; x = x + 1; }":    api.OK,
		"fun main() { x = 1; let x = 1; }":        api.ErrName,
		"fun main() { x = g(); }":                 api.ErrName,
		"fun g(a) { } fun main() { x = g(); }":    api.ErrArg,
		// what is declared in a block is visible behind it
		"fun main() { if 1 { let x = 1; } else { x = 2; } print x; }":   api.OK,
		"fun main() { if 1 { x = 1; } else { let x = 2; } }":            api.ErrName,
		"fun main() { while x { let x = 1; } }":                         api.ErrName,
		"fun main() { if 1 { let x = 1; } else { let x = 2; } }":        api.ErrTwice,
		"fun main() { try { } catch e { e = 1; } print e; }":            api.OK,
		"fun main() { try { e; } catch e { } }":                         api.ErrName,
		"fun main() { try { let e = 1; } catch e { } }":                 api.ErrTwice,
		"fun main() { try { } catch e { let e = 1; } }":                 api.ErrTwice,
		"fun main() { try { let x = 1; } catch e { print x; } }":        api.OK,
		"fun main() { try { let x = 1; } catch e { print x + y; } }":    api.ErrName,
		"fun main() { try { try { } catch e { } } catch e { } }":        api.ErrTwice,
		"fun main() { try { try { } catch e { } } catch d { d + e; } }": api.OK,
		// closures
		"fun main() { let a = 1; fn (b) { let c = a + b; c; a = c; b = c; }; }":        api.OK,
		"fun main() { fn (a) { }; a; }":                                                api.ErrName,
		"fun main() { fn () { let a = 1; }; a; }":                                      api.ErrName,
		"fun main() { fn () { let a = 1; }; fn () { a; }; }":                           api.ErrName,
		"fun main() { fn () { a; }; let a = 1; }":                                      api.ErrName,
		"fun main() { fn () { let a = 1; }; let a = 1; }":                              api.ErrTwice,
		"fun main() { fn (a) { }; fn (a) { }; }":                                       api.ErrTwice,
		"fun main() { fn (a, a) { }; }":                                                api.ErrTwice,
		"fun main() { fn () { try { } catch e { e; } e; }; }":                          api.OK,
		"fun main() { fn () { try { } catch e { } }; e; }":                             api.ErrName,
		"fun main() { fn (a) { a; } == fn (b) { a; }; }":                               api.ErrName,
		"fun main() { fn (a) { a; }.(1) + fn (b) { b; }.(2); let c = fn () { 1; }; }":  api.OK,
		"fun f(a) { fn () { a = 1; }; } fun main() { }":                                api.OK,
		"fun f(a) { } fun main() { a; }":                                               api.ErrName,
		"fun f() { fn () { g(1); }; } fun g(a) { } fun main() { fn () { g(1, 2); }; }": api.ErrArg,
		// calls
		"fun f(a, b) { } fun main() { f(1, 2); spawn f(1, 2); main(); }": api.OK,
		"fun f(a, b) { } fun main() { f(1); }":                           api.ErrArg,
		"fun f(a, b) { } fun main() { f(1, 2, 3); }":                     api.ErrArg,
		"fun f(a, b) { } fun main() { spawn f(); }":                      api.ErrArg,
		"fun main() { spawn f(); }":                                      api.ErrName,
		"fun f(a) { } fun main() { f(x, y); }":                           api.ErrArg,
		"fun f(a) { } fun main() { f(g()); f(); }":                       api.ErrName,
		"fun main() { 1 + x; g(); }":                                     api.ErrName,
	} {
		if e := lang.Check(parsed(t, text)); e != want {
			t.Errorf("%s: %d, want %d", text, e, want)
		}
	}
}

// P1.3: how many names a function declares.
func TestCheckNames(t *testing.T) {
	for text, want := range map[string]api.Errno{
		"fun main() { " + lets(api.MaxNames) + "}":                        api.OK,
		"fun main() { " + lets(api.MaxNames+1) + "}":                      api.ErrLimit,
		"fun main() { " + lets(api.MaxNames) + "let x0 = 1; }":            api.ErrTwice,
		"fun main() { " + lets(api.MaxNames) + "let y = z; }":             api.ErrName,
		"fun main() { " + lets(api.MaxNames) + "fn (y) { }; }":            api.ErrLimit,
		"fun main() { " + lets(api.MaxNames-1) + "fn (y) { }; }":          api.OK,
		"fun main() { fn (y) { }; " + lets(api.MaxNames) + "}":            api.ErrLimit,
		"fun main() { " + lets(api.MaxNames) + "try { } catch e { } }":    api.ErrLimit,
		"fun main() { } fun f(a) { " + lets(api.MaxNames) + "}":           api.ErrLimit,
		"fun main() { } fun f(a) { " + lets(api.MaxNames-1) + "}":         api.OK,
		"fun f() { " + lets(40) + "} fun main() { " + lets(40) + "}":      api.OK,
		"fun f() { } fun f() { } fun main() { " + lets(65) + "}":          api.ErrTwice,
		"fun main() { fn () { " + lets(api.MaxNames) + "y; }; }":          api.ErrName,
		"fun main() { fn () { " + lets(api.MaxNames) + "let y = 1; }; }":  api.ErrLimit,
		"fun main() { fn () { " + lets(api.MaxNames) + "let x1 = 1; }; }": api.ErrTwice,
	} {
		if e := lang.Check(parsed(t, text)); e != want {
			t.Errorf("%s: %d, want %d", text, e, want)
		}
	}
}

// P1.3: the error of Shape comes first.
func TestCheckShape(t *testing.T) {
	f := api.Func{Name: "f"}
	for i, c := range []struct {
		p    api.Program
		want api.Errno
	}{
		{api.Program{Funcs: slices.Repeat([]api.Func{f}, api.MaxFuncs+1)}, api.ErrLimit},
		{api.Program{Funcs: slices.Repeat([]api.Func{f}, api.MaxFuncs)}, api.ErrTwice},
		{api.Program{Funcs: []api.Func{f, f, {Name: "F"}}}, api.ErrArg},
		{program(do(name("x")), api.Node{Kind: 77}), api.ErrArg},
	} {
		if e := lang.Check(c.p); e != c.want {
			t.Errorf("%d: %d, want %d", i, e, c.want)
		}
	}
}

const scopes = `fun f(a, b) { let c = a; return c; }
fun main() {
  let o = 1;
  if o { let p = 2; } else { let q = 3; }
  let g = fn (r, s) { let u = 1; while u { let v = 2; } return u; };
  try { let w = 1; } catch e { print 1; }
  fn () { let y = 1; print y; }; print 2;
}`

// P1.9: Names.
func TestNames(t *testing.T) {
	p := parsed(t, scopes)
	for n, want := range []string{
		"a b",       // let c
		"a b c",     // return c
		"",          // let o
		"o",         // if
		"o",         // let p
		"o p",       // let q
		"o p q",     // let g
		"o p q r s", // let u
		"o p q r s u",
		"o p q r s u",
		"o p q r s u v", // return u
		"o p q g",       // try
		"o p q g",       // let w
		"o p q g w e",   // print 1
		"o p q g w e",   // fn ();
		"o p q g w e",   // let y
		"o p q g w e y", // print y
		"o p q g w e",   // print 2
	} {
		got, e := lang.Names(p, n)
		if e != api.OK || strings.Join(got, " ") != want {
			t.Errorf("Names at %d: %v, error %d, want %s", n, got, e, want)
		}
	}
	for _, n := range []int{-1, 18, 1 << 40} {
		if got, e := lang.Names(p, n); e != api.ErrNone || got != nil {
			t.Errorf("Names at %d: %v, error %d", n, got, e)
		}
	}
	for text, want := range map[string]api.Errno{
		"fun main() { x; }":               api.ErrName,
		"fun f() { }":                     api.ErrName,
		"fun main() { } fun main() { 1;}": api.ErrTwice,
		"fun main() { }":                  api.ErrNone,
	} {
		if got, e := lang.Names(parsed(t, text), 0); e != want || got != nil {
			t.Errorf("%s: %v, error %d, want %d", text, got, e, want)
		}
	}
	if _, e := lang.Names(program(num(1)), 0); e != api.ErrArg {
		t.Error(e)
	}
}

// P1.9 and P1.3 agree: a name is visible ahead of a statement if and only if a use of it may be put there.
func TestNamesAgreeWithCheck(t *testing.T) {
	p := parsed(t, scopes)
	for n := range lang.Count(p) {
		s, _ := lang.At(p, n)
		names, _ := lang.Names(p, n)
		for _, x := range strings.Fields("a b c o p q g r s u v w e y none main") {
			q, e := lang.Replace(p, n, []api.Node{do(name(x)), s})
			if e != api.OK {
				t.Fatal(e)
			}
			if ok := lang.Check(q) == api.OK; ok != slices.Contains(names, x) {
				t.Errorf("%s ahead of %d: %v", x, n, ok)
			}
		}
	}
}

// P1.10: Reads.
func TestReads(t *testing.T) {
	for text, want := range map[string]string{
		"let x = y;":                          "y",
		"x = x + y * x;":                      "x y",
		"let x = 1;":                          "",
		"a[b] = c[a];":                        "a b c",
		"if b & a { print c; } else { d; }":   "b a",
		"while f(x, spawn g(y)) { z = 1; }":   "x y",
		"try { a; } catch b { c; }":           "",
		"return h.(i, new(j), len(k));":       "h i j k",
		"assert !-a;":                         "a",
		"print input + clock;":                "",
		"join t;":                             "t",
		"lock o;":                             "o",
		"unlock o;":                           "o",
		"throw e;":                            "e",
		"fn (a) { x = a + y; };":              "y x",
		"z + fn (a) { a; z; } + a;":           "z a",
		"a + fn (a) { a + b; } + c;":          "a b c",
		"fn (a) { a; }.(a);":                  "a",
		"fn () { x; let x = 1; }.(x, y);":     "x y",
		"fn (a) { b; } + fn (b) { a; b; };":   "b a",
		"let s = fn () { s = s; t = u; };":    "s u t",
		"fn () { try { e; } catch e { f; }};": "f",
	} {
		n, e := lang.At(parsed(t, "fun main() { "+text+" }"), 0)
		if e != api.OK {
			t.Fatal(e)
		}
		if got := strings.Join(lang.Reads(n), " "); got != want {
			t.Errorf("%s: %s, want %s", text, got, want)
		}
	}
	for i, n := range []api.Node{
		{}, {Kind: 88}, name("x"), node(api.KiUnary, "-", name("x")),
		node(api.KiPrint, "x", name("x")), node(api.KiPrint, "", name("x"), name("y")), node(api.KiPrint, "", name("X")),
		node(api.KiPrint, "", fn(nil, do(fn(nil, do(name("x")))))),
		{Kind: api.KiWhile, Subs: []api.Node{name("x")}, Body: many(api.MaxNodes/2 + 1)},
		node(api.KiPrint, "", node(api.KiBinary, "+", name("x"), nested(api.MaxDepth-1))),
	} {
		if got := lang.Reads(n); len(got) > 0 {
			t.Errorf("%d: %v", i, got)
		}
	}
	deep := node(api.KiPrint, "", node(api.KiBinary, "+", name("x"), nested(api.MaxDepth-2)))
	if got := lang.Reads(deep); !slices.Equal(got, []string{"x"}) {
		t.Errorf("a statement of MaxDepth: %v", got)
	}
}

// P1.10: Held.
func TestHeld(t *testing.T) {
	for text, want := range map[string]string{
		"fn () { }":                             "",
		"fn (a) { x = a + y; }":                 "y x",
		"fn (a) { let b = a; b = c; d[e] = b;}": "c d e",
		"fn () { x; let x = 1; y; }":            "y",
		"fn () { try { x; } catch x { y; } }":   "y",
		"fn () { x = x; y = x; }":               "x y",
		"fn () { f(a); spawn g(b); }":           "a b",
		"fn (f) { f(f); g; }":                   "g",
		"fn () { if a { b; } else { c; } }":     "a b c",
	} {
		p := parsed(t, "fun main() { "+text+"; }")
		if got := strings.Join(lang.Held(p.Funcs[0].Body[0].Subs[0]), " "); got != want {
			t.Errorf("%s: %s, want %s", text, got, want)
		}
	}
	use := do(name("x"))
	for i, n := range []api.Node{
		{}, {Kind: 99, Body: []api.Node{use}}, use, name("x"), node(api.KiUnary, "-", fn(nil, use)),
		{Kind: api.KiFn, Text: "f", Body: []api.Node{use}}, fn([]string{"X"}, use), fn(nil, use, do(fn(nil))), fn(nil, name("x")),
		fn(nil, use, do(nested(api.MaxDepth-2))), fn(nil, append(many(api.MaxNodes/2-1), use)...),
	} {
		if got := lang.Held(n); len(got) > 0 {
			t.Errorf("%d: %v", i, got)
		}
	}
	for i, n := range []api.Node{fn(nil, use, do(nested(api.MaxDepth-3))), fn(nil, append(many(api.MaxNodes/2-2), use)...)} {
		if got := lang.Held(n); !slices.Equal(got, []string{"x"}) {
			t.Errorf("limit %d: %v", i, got)
		}
	}
}

// P1.11: Calls.
func TestCalls(t *testing.T) {
	for text, want := range map[string]string{
		"fun main() { }":         "0",
		"fun main() { main(); }": "1",
		"fun f() { g(); } fun g() { } fun main() { f(); }":                                                   "010 000 110",
		"fun f() { } fun main() { spawn f(); }":                                                              "00 10",
		"fun f() { } fun main() { fn () { f(); }; }":                                                         "00 10",
		"fun f() { g(); } fun g() { f(); } fun main() { }":                                                   "110 110 000",
		"fun main() { a(1); } fun a(x) { while x { b(c()); } } fun b(y) { } fun c() { main(); } fun d() { }": "11110 11110 00000 11110 00000",
		"fun main() { if 0 { } else { f(); } } fun f() { }":                                                  "01 00",
		"fun z() { y(); } fun y() { x(); } fun x() { w(); } fun w() { } fun main() { z(); }":                 "01110 00110 00010 00000 11110",
	} {
		rows, e := lang.Calls(parsed(t, text))
		var got []string
		for _, r := range rows {
			s := ""
			for _, b := range r {
				s += map[bool]string{false: "0", true: "1"}[b]
			}
			got = append(got, s)
		}
		if e != api.OK || strings.Join(got, " ") != want {
			t.Errorf("%s: %v, error %d", text, got, e)
		}
	}
	for text, want := range map[string]api.Errno{"": api.ErrName, "fun main() { f(); }": api.ErrName, "fun f() { } fun f() { }": api.ErrTwice} {
		if rows, e := lang.Calls(parsed(t, text)); e != want || rows != nil {
			t.Errorf("%s: %v, error %d", text, rows, e)
		}
	}
	if rows, e := lang.Calls(program(num(1))); e != api.ErrArg || rows != nil {
		t.Error(rows, e)
	}
}

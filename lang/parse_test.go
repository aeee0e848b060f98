package lang_test

import (
	"math"
	"strings"
	"testing"

	"sleuth/api"
	"sleuth/lang"
)

// P1.5: the trees of all statements and expressions.
func TestParseTrees(t *testing.T) {
	a, b, c := name("a"), name("b"), name("c")
	bin := func(op string, x, y api.Node) api.Node { return node(api.KiBinary, op, x, y) }
	load := func(x, y api.Node) api.Node { return node(api.KiLoad, "", x, y) }
	for text, want := range map[string]api.Node{
		"let a = 1;":                 node(api.KiLet, "a", num(1)),
		"a = 1;":                     node(api.KiSet, "a", num(1)),
		"a[b] = c;":                  node(api.KiStore, "", a, b, c),
		"a[b][1] = c;":               node(api.KiStore, "", load(a, b), num(1), c),
		"(a)[b] = c;":                node(api.KiStore, "", a, b, c),
		"(-a)[b] = c;":               node(api.KiStore, "", node(api.KiUnary, "-", a), b, c),
		"1[b] = c;":                  node(api.KiStore, "", num(1), b, c),
		"a.(b)[0] = c;":              node(api.KiStore, "", node(api.KiApply, "", a, b), num(0), c),
		"a(b)[0] = c;":               node(api.KiStore, "", node(api.KiCall, "a", b), num(0), c),
		"a[b];":                      do(load(a, b)),
		"a == b;":                    do(bin("==", a, b)),
		"(a);":                       do(a),
		"((a[b]));":                  do(load(a, b)),
		"return a;":                  node(api.KiReturn, "", a),
		"throw a;":                   node(api.KiThrow, "", a),
		"join a;":                    node(api.KiJoin, "", a),
		"lock a;":                    node(api.KiLock, "", a),
		"unlock a;":                  node(api.KiUnlock, "", a),
		"print a;":                   node(api.KiPrint, "", a),
		"assert a;":                  node(api.KiAssert, "", a),
		"if a { b; }":                {Kind: api.KiIf, Subs: []api.Node{a}, Body: []api.Node{do(b)}},
		"if a { b; } else { }":       {Kind: api.KiIf, Subs: []api.Node{a}, Body: []api.Node{do(b)}},
		"if a { } else { b; c; }":    {Kind: api.KiIf, Subs: []api.Node{a}, Else: []api.Node{do(b), do(c)}},
		"while a { b; }":             {Kind: api.KiWhile, Subs: []api.Node{a}, Body: []api.Node{do(b)}},
		"try { a; } catch b { c; }":  {Kind: api.KiTry, Text: "b", Body: []api.Node{do(a)}, Else: []api.Node{do(c)}},
		"9223372036854775807;":       do(num(math.MaxInt64)),
		"0;":                         do(num(0)),
		"input;":                     do(node(api.KiInput, "")),
		"clock;":                     do(node(api.KiClock, "")),
		"new(a);":                    do(node(api.KiNew, "", a)),
		"len(a);":                    do(node(api.KiLen, "", a)),
		"a();":                       do(node(api.KiCall, "a")),
		"a (b, c);":                  do(node(api.KiCall, "a", b, c)),
		"spawn a(b);":                do(node(api.KiSpawn, "a", b)),
		"spawn a()[b];":              do(load(node(api.KiSpawn, "a"), b)),
		"a.();":                      do(node(api.KiApply, "", a)),
		"a.(b, c).(1)[2];":           do(load(node(api.KiApply, "", node(api.KiApply, "", a, b, c), num(1)), num(2))),
		"fn () { };":                 do(fn(nil)),
		"fn (a, b) { c; }.(1);":      do(node(api.KiApply, "", fn([]string{"a", "b"}, do(c)), num(1))),
		"a - b - c;":                 do(bin("-", bin("-", a, b), c)),
		"a - (b - c);":               do(bin("-", a, bin("-", b, c))),
		"a + b * c;":                 do(bin("+", a, bin("*", b, c))),
		"a * b + c;":                 do(bin("+", bin("*", a, b), c)),
		"a / b % c * 1;":             do(bin("*", bin("%", bin("/", a, b), c), num(1))),
		"a | b & c;":                 do(bin("|", a, bin("&", b, c))),
		"a & b | c;":                 do(bin("|", bin("&", a, b), c)),
		"a | b | c;":                 do(bin("|", bin("|", a, b), c)),
		"a & b & c;":                 do(bin("&", bin("&", a, b), c)),
		"a < b & b >= c;":            do(bin("&", bin("<", a, b), bin(">=", b, c))),
		"a + 1 <= b - 2 | c;":        do(bin("|", bin("<=", bin("+", a, num(1)), bin("-", b, num(2))), c)),
		"(a < b) < c;":               do(bin("<", bin("<", a, b), c)),
		"a != (b == c);":             do(bin("!=", a, bin("==", b, c))),
		"a > - b;":                   do(bin(">", a, node(api.KiUnary, "-", b))),
		"-a * b;":                    do(bin("*", node(api.KiUnary, "-", a), b)),
		"-(a * b);":                  do(node(api.KiUnary, "-", bin("*", a, b))),
		"!-a[b];":                    do(node(api.KiUnary, "!", node(api.KiUnary, "-", load(a, b)))),
		"a-- b;":                     do(bin("-", a, node(api.KiUnary, "-", b))),
		"a=b;":                       node(api.KiSet, "a", b),
		"a<=b;":                      do(bin("<=", a, b)),
		"\t\r\n a#;\n#\n;# a \xff":   do(a),
		"a\n[b]\n=c;":                node(api.KiStore, "", a, b, c),
		"letx = a;":                  node(api.KiSet, "letx", a),
		"if fn (a) { b; } { c; }":    {Kind: api.KiIf, Subs: []api.Node{fn([]string{"a"}, do(b))}, Body: []api.Node{do(c)}},
		"print fn () { a = b; }[1];": node(api.KiPrint, "", load(fn(nil, node(api.KiSet, "a", b)), num(1))),
	} {
		if p := parsed(t, "fun main() { "+text+"\n}"); !lang.Same(p, program(want)) {
			t.Errorf("%s: %v", text, p)
		}
	}
	p := parsed(t, "fun f(a, b) { a; } fun f() { } fun g(c, c) { }")
	want := api.Program{Funcs: []api.Func{{Name: "f", Params: []string{"a", "b"}, Body: []api.Node{do(a)}}, {Name: "f"}, {Name: "g", Params: []string{"c", "c"}}}}
	if !lang.Same(p, want) {
		t.Error(p)
	}
}

// P1.5: where a text goes wrong by its words, which counts ahead of all else.
func TestParseWords(t *testing.T) {
	for text, at := range map[string]int{
		"~": 0, "fun ~": 4, "fun main() { print 1 } ~": 23, ") ~": 2, "\xff": 0, "\x00": 0, "A": 0, "_a": 0, "a_ _": 3,
		"ä": 0, "fun main() { ä; }": 13, "\"": 0, "a'": 1, "a: b": 1, "a @": 2, "\v": 0, "\f": 0, "a\\": 1, "$": 0,
		"01": 0, "00": 0, "x 007": 2, "9223372036854775808": 0, "a 99999999999999999999999": 2, "0a 01": 3,
		"abcdefghijklmnopq": 0, "fun abcdefghijklmnopqrst": 4, "a abcdefghijklmno_9": 2, "1abcdefghijklmnopq": 1,
		"9223372036854775807 ~": 20, "abcdefghijklmnop ~": 17, "# ~\n ~": 5, "#\r ~\n ~": 6,
	} {
		if p, got, e := lang.Parse(text); e != api.ErrForm || got != at || p.Funcs != nil {
			t.Errorf("%q: error %d at %d, want %d", text, e, got, at)
		}
	}
}

// P1.5: where a text goes wrong by its form.
func TestParseForm(t *testing.T) {
	for text, at := range map[string]int{
		"a": 0, "1": 0, "main() { }": 0, "fun": 3, "fun ": 4, "fun 1": 4, "fun if": 4, "fun f": 5, "fun f{": 5, "fun f(,": 6, "fun f(1": 6,
		"fun f(a": 7, "fun f(a,)": 8, "fun f(a b": 8, "fun f()": 7, "fun f();": 7, "fun f() {": 9, "fun f() { # }": 13, "fun f() { } }": 12, "fun f() { } fun": 15,
		"fun main() { print 1 }": 21, "fun main() {": 12,
	} {
		if p, got, e := lang.Parse(text); e != api.ErrForm || got != at || p.Funcs != nil {
			t.Errorf("%q: error %d at %d, want %d", text, e, got, at)
		}
	}
	for text, at := range map[string]int{
		"let 1 = 2;": 4, "let if = 1;": 4, "let x 1;": 6, "let x == 1;": 6, "let x = ;": 8, "let x = 1": 10, "let x = 1 2;": 10, "let x[0] = 1;": 5,
		"(a) = 1;": 4, "((a)) = 1;": 6, "-a = 1;": 3, "a + b = 1;": 6, "1 = 2;": 2, "f() = 1;": 4, "a.() = 1;": 5, "input = 1;": 6,
		"(a[0]) = 1;": 7, "-a[0] = 1;": 6, "b + a[0] = 1;": 9, "a[0] + b = 1;": 9, "a[0].(1) = 1;": 9, "a[0] = b = 1;": 9, "a = b = 1;": 6, "spawn f() = 1;": 10,
		"a[0] == 1 = 2;": 10, "a[0] = ;": 7, "a[] = 1;": 2, "a[0 = 1;": 4, "a[0;": 3, "new(1) = 2;": 7, "a[0] < b[1] = 2;": 12,
		"1 < 2 < 3;": 6, "1 == 2 == 3;": 7, "1 < 2 + 3 >= 4;": 10, "1 & 2 < 3 < 4;": 10, "1 + 2 < 3 & 4 != 5 > 6;": 19, "(1 < 2 < 3);": 7,
		"if { }": 3, "if a b": 5, "if a { } else b": 14, "if a { } else if b { }": 14, "else { }": 0, "while { }": 6, "while a;": 7, "if a { }; ": 8,
		"try a": 4, "try { }": 8, "try { } catch { }": 14, "try { } catch 1": 14, "try { } catch e 1": 16, "try { } finally": 8, "catch e { }": 0,
		"return;": 6, "throw;": 5, "join;": 4, "lock;": 4, "unlock;": 6, "print;": 5, "assert;": 6, "print a, b;": 7, "return a": 9,
		"new 1;": 4, "new();": 4, "new(1, 2);": 5, "len a;": 4, "len();": 4, "spawn 1;": 6, "spawn f;": 7, "spawn f.();": 7, "input();": 5, "clock 1;": 6,
		"f(;": 2, "f(,);": 2, "f(a,);": 4, "f(a b);": 4, "f(a;": 3, "f(a))": 4, "f.a;": 2, "f.;": 2, "f.(a,);": 5, "f. (": 5, "a.b();": 2,
		"fn { };": 3, "fn f() { };": 3, "fn (1) { };": 4, "fn (a,) { };": 6, "fn () ;": 6, "fn () { }": 10, "fn () { 1 };": 10, "fn () { } 1;": 10,
		"();": 1, "(a;": 2, "(a, b);": 2, "a);": 1, "a];": 1, "]": 0, ")": 0, ";": 0, "a;;": 2, ",": 0, "=": 0, "fun": 0, "{ }": 0, "a b;": 2, "1 2;": 2, "1a;": 1, "a!b;": 1, "a ! = b;": 2,
		"*a;": 0, "a + ;": 4, "a + * b;": 4, "a & & b;": 4, "a || b;": 3, "a && b;": 3, "a = = b;": 4, "a === b;": 4, "!": 2, "- ": 3, "a - - ;": 6, "+a;": 0, "a < = b;": 4, "a.1;": 2,
	} {
		whole := "fun main() { " + text + " "
		if _, got, e := lang.Parse(whole); e != api.ErrForm || got != 13+at {
			t.Errorf("%q: error %d at %d, want %d", text, e, got-13, at)
		}
	}
}

// P1.5: errors of the shape have the place 0, and come behind those of the form.
func TestParseShape(t *testing.T) {
	body := func(s string) string { return "fun main() { " + s + " }" }
	for i, c := range []struct {
		text string
		want api.Errno
	}{
		{"", api.OK},
		{" # nothing\n", api.OK},
		{body("f(1, 2, 3, 4, 5, 6, 7, 8);"), api.OK},
		{body("f(1, 2, 3, 4, 5, 6, 7, 8, 9);"), api.ErrArg},
		{body("spawn f(1, 2, 3, 4, 5, 6, 7, 8, 9);"), api.ErrArg},
		{body("f.(1, 2, 3, 4, 5, 6, 7, 8);"), api.OK},
		{body("f.(1, 2, 3, 4, 5, 6, 7, 8, 9);"), api.ErrArg},
		{"fun f(a, b, c, d, e, f, g, h) { }", api.OK},
		{"fun f(a, b, c, d, e, f, g, h, i) { }", api.ErrArg},
		{body("fn (a, b, c, d, e, f, g, h) { };"), api.OK},
		{body("fn (a, b, c, d, e, f, g, h, i) { };"), api.ErrArg},
		{body("fn () { fn () { }; };"), api.ErrArg},
		{body("fn () { } + fn () { };"), api.OK},
		{strings.Repeat("fun f() { } ", api.MaxFuncs), api.OK},
		{strings.Repeat("fun f() { } ", api.MaxFuncs+1), api.ErrLimit},
		{body(strings.Repeat("1;", api.MaxNodes/2)), api.OK},
		{body(strings.Repeat("1;", api.MaxNodes/2+1)), api.ErrLimit},
		{body(strings.Repeat("-", api.MaxDepth-2) + "1;"), api.OK},
		{body(strings.Repeat("-", api.MaxDepth-1) + "1;"), api.ErrLimit},
		{body(strings.Repeat("(", 30000) + "1" + strings.Repeat(")", 30000) + ";"), api.OK},
		{body(strings.Repeat("if 1 {", 5000) + strings.Repeat("}", 5000)), api.ErrLimit},
	} {
		p, at, e := lang.Parse(c.text)
		if e != c.want || at != 0 || e != api.OK && p.Funcs != nil {
			t.Errorf("%d: error %d at %d, want %d", i, e, at, c.want)
		}
	}
	for _, s := range []string{"f(1, 2, 3, 4, 5, 6, 7, 8, 9)", "fn () { fn () { }; }", strings.Repeat("1;", 600), strings.Repeat("-", 60000)} {
		if _, at, e := lang.Parse("fun main() { " + s); e != api.ErrForm || at != 13+len(s) {
			t.Errorf("%.20q: error %d at %d", s, e, at)
		}
	}
}

// P1.5: the limit of a text.
func TestParseLimit(t *testing.T) {
	for _, fill := range []string{" ", "#", "~", "a", "(", "1"} {
		if _, at, e := lang.Parse(strings.Repeat(fill, api.MaxText+1)); e != api.ErrLimit || at != 0 {
			t.Errorf("%q: error %d at %d", fill, e, at)
		}
	}
	for fill, want := range map[string]api.Errno{" ": api.OK, "#": api.OK, "~": api.ErrForm, "a": api.ErrForm, "{": api.ErrForm} {
		if _, at, e := lang.Parse(strings.Repeat(fill, api.MaxText)); e != want || at != 0 {
			t.Errorf("%q: error %d at %d", fill, e, at)
		}
	}
	for _, deep := range []string{"(", "-", "f(", "a[", "f.(", "if 1 {", "fn () {", "1+", "1|(", "new(", "try {", "!("} {
		s := "fun main() {" + strings.Repeat(deep, (api.MaxText-12)/len(deep))
		if _, at, e := lang.Parse(s); e != api.ErrForm || at != len(s) {
			t.Errorf("%q: error %d at %d", deep, e, at)
		}
	}
}

package machine_test

import (
	"fmt"
	"math"
	"reflect"
	"slices"
	"strings"
	"testing"

	"sleuth/api"
	"sleuth/lang"
	"sleuth/machine"
)

// P2.1: the first example of the chapter, field by field.
func TestCompileExample(t *testing.T) {
	want := api.Code{Chunks: []api.Chunk{{Name: "main", Regs: 2, Code: []api.Instr{
		{Op: api.OpConst, D: 0, K: 1}, {Op: api.OpConst, D: 1, K: 2}, {Op: api.OpBinary}, {Op: api.OpPrint},
		{Op: api.OpConst, Line: -1}, {Op: api.OpReturn, Line: -1},
	}}}}
	if c := compiled(t, main("print 1 + 2;")); !reflect.DeepEqual(c, want) {
		t.Fatalf("%+v", c)
	}
}

// P2.1: the code of each expression, in a function with the registers a 0 and b 1.
func TestExpressions(t *testing.T) {
	for text, want := range map[string]string{
		"0":                   "const d2",
		"9223372036854775807": fmt.Sprint("const d2 k", int64(math.MaxInt64)),
		"a":                   "move d2",
		"b":                   "move d2 a1",
		"-a":                  "move d2; unary d2",
		"!b":                  "move d2 a1; unary d2 a1",
		"-!7":                 "const d2 k7; unary d2 a1; unary d2",
		"a + b":               "move d2; move d3 a1; binary d2",
		"a - b":               "move d2; move d3 a1; binary d2 a1",
		"a * b":               "move d2; move d3 a1; binary d2 a2",
		"a / b":               "move d2; move d3 a1; binary d2 a3",
		"a % b":               "move d2; move d3 a1; binary d2 a4",
		"a == b":              "move d2; move d3 a1; binary d2 a5",
		"a != b":              "move d2; move d3 a1; binary d2 a6",
		"a < b":               "move d2; move d3 a1; binary d2 a7",
		"a <= b":              "move d2; move d3 a1; binary d2 a8",
		"a > b":               "move d2; move d3 a1; binary d2 a9",
		"a >= b":              "move d2; move d3 a1; binary d2 a10",
		"a & b":               "move d2; move d3 a1; binary d2 a11",
		"a | b":               "move d2; move d3 a1; binary d2 a12",
		"1 - (2 - 3)":         "const d2 k1; const d3 k2; const d4 k3; binary d3 a1; binary d2 a1",
		"1 - 2 - 3":           "const d2 k1; const d3 k2; binary d2 a1; const d3 k3; binary d2 a1",
		"new(a)":              "move d2; new d2",
		"len(b)":              "move d2 a1; len d2",
		"a[b]":                "move d2; move d3 a1; load d2",
		"a[b][1]":             "move d2; move d3 a1; load d2; const d3 k1; load d2",
		"z()":                 "call d2 a2",
		"f(b, 4)":             "move d2 a1; const d3 k4; call d2 a1 b2",
		"spawn z()":           "spawn d2 a2",
		"spawn f(4, b)":       "const d2 k4; move d3 a1; spawn d2 a1 b2",
		"1 + f(2, z())":       "const d2 k1; const d3 k2; call d4 a2; call d3 a1 b2; binary d2",
		"a.()":                "move d2; apply d2",
		"a.(1, b, 3)":         "move d2; const d3 k1; move d4 a1; const d5 k3; apply d2 b3",
		"fn () { }":           "close d2 a3",
		"fn (c) { c = b; }":   "move d2 a1; close d2 a3 b1",
		"1 + fn () { b; a; }": "const d2 k1; move d3 a1; move d4; close d3 a3 b2; binary d2",
		"input":               "input d2",
		"clock":               "clock d2",
	} {
		c := compiled(t, "fun main() { } fun f(a, b) { "+text+"; } fun z() { }")
		if got := listing(c.Chunks[1]); got != want {
			t.Errorf("%s: %s", text, got)
		}
	}
}

// P2.1: the code of each statement; a is the register 0, e of a catch 1.
func TestStatements(t *testing.T) {
	for text, want := range map[string]string{
		"let x = a;":                      "move d2; move d1 a2",
		"a = 5;":                          "const d1 k5; move a1",
		"a[1] = 2;":                       "move d1; const d2 k1; const d3 k2; store d1",
		"if a { }":                        "move d1; branch d1 a2",
		"if a { 1; 2; }":                  "move d1; branch d1 a4; const d1 k1 @1; const d1 k2 @2",
		"if a { 1; } else { 2; } 3;":      "move d1; branch d1 a4; const d1 k1 @1; jump a5; const d1 k2 @2; const d1 k3 @3",
		"if a { } else { 2; }":            "move d1; branch d1 a3; jump a4; const d1 k2 @1",
		"if a { 1; } else { }":            "move d1; branch d1 a3; const d1 k1 @1",
		"while a { }":                     "move d1; branch d1 a3; jump",
		"1; while a { 2; } 3;":            "const d1 k1; move d1 @1; branch d1 a5 @1; const d1 k2 @2; jump a1 @1; const d1 k3 @3",
		"try { 1; } catch e { 2; } 3;":    "try a4 b1; const d2 k1 @1; end; jump a5; const d2 k2 @2; const d2 k3 @3",
		"try { } catch e { }":             "try a3 b1; end; jump a3",
		"return a;":                       "move d1; return d1",
		"throw a;":                        "move d1; throw d1",
		"join a;":                         "move d1; join d1",
		"lock a;":                         "move d1; lock d1",
		"unlock a;":                       "move d1; unlock d1",
		"print a;":                        "move d1; print d1",
		"assert a;":                       "move d1; assert d1",
		"a;":                              "move d1",
		"":                                "",
		"while 1 { if 2 { 3; } } 4;":      "const d1 k1; branch d1 a6; const d1 k2 @1; branch d1 a5 @1; const d1 k3 @2; jump; const d1 k4 @3",
		"if 1 { while 2 { } 3; } else {}": "const d1 k1; branch d1 a6; const d1 k2 @1; branch d1 a5 @1; jump a2 @1; const d1 k3 @2",
	} {
		c := compiled(t, "fun f(a) { "+text+" } fun main() { }")
		if got := listing(c.Chunks[0]); got != want {
			t.Errorf("%s: %s", text, got)
		}
	}
}

// P2.1: which name has which register.
func TestNamedRegisters(t *testing.T) {
	c := compiled(t, `
fun f(p, q) {
  let a = fn (x, y) { let m = q; try { let n = 1; } catch o { let r = p; } q = r + o + n + m + x + y; };
  try { let b = 1; } catch e { let c = 2; }
  if 1 { let d = 1; } else { let g = 2; }
  while fn (z) { z; }.(1) { let h = 1; }
  p; q; a; e; b; c; d; g; h;
}
fun main() { }`)
	// the names of f, by their registers: p q a b e c d g h
	var got []string
	for _, i := range c.Chunks[0].Code {
		if i.Op == api.OpMove && i.Line >= 15 {
			got = append(got, fmt.Sprint(i.A))
		}
	}
	if want := "0 1 2 4 3 5 6 7 8"; strings.Join(got, " ") != want {
		t.Errorf("registers of f: %v", got)
	}
	// of the closure: x y, then q p, then m n o r
	want := "move d8 a2 @1; move d4 a8 @1; try a7 b6 @2; const d8 k1 @3; move d5 a8 @3; end @2; jump a9 @2; move d8 a3 @4; move d7 a8 @4; " +
		"move d8 a7 @5; move d9 a6 @5; binary d8 @5; move d9 a5 @5; binary d8 @5; move d9 a4 @5; binary d8 @5; move d9 @5; binary d8 @5; move d9 a1 @5; binary d8 @5; move d2 a8 @5"
	if got := listing(c.Chunks[2]); got != want {
		t.Errorf("closure: %s", got)
	}
	// it holds q and p, in the order of their first place in its Body
	if got := listing(c.Chunks[0]); !strings.HasPrefix(got, "move d9 a1; move d10; close d9 a2 b2; move d2 a9") {
		t.Errorf("f: %s", got)
	}
}

// P2.1: the order of the chunks, and what they tell beside their code.
func TestChunks(t *testing.T) {
	c := compiled(t, `
fun f(a, b) { while fn (x) { return x + a; }.(1) + fn (x2, y) { return a + b; }.(1, 2) { a = fn () { return 3; }; } }
fun main() { let k = fn () { return 4; }; }
fun g() { print fn () { return 5; } == fn (v) { v; }; }`)
	var got []string
	for _, k := range c.Chunks {
		got = append(got, fmt.Sprintf("%s %d %d %d %d", k.Name, k.Params, k.Held, k.Regs, len(k.Code)))
	}
	want := []string{"f 2 0 6 17", "main 0 0 2 4", "g 0 0 2 6", " 1 1 4 6", " 2 2 6 6", " 0 0 1 4", " 0 0 1 4", " 0 0 1 4", " 1 0 2 3"}
	if strings.Join(got, "|") != strings.Join(want, "|") {
		t.Errorf("%q", got)
	}
	if c.Main != 1 {
		t.Errorf("main is chunk %d", c.Main)
	}
	for i, named := range []int{2, 1, 0, 2, 4, 0, 0, 0, 1} {
		code := c.Chunks[i].Code
		want := []api.Instr{{Op: api.OpConst, D: named, Line: -1}, {Op: api.OpReturn, D: named, Line: -1}}
		if got := code[len(code)-2:]; !slices.Equal(got, want) {
			t.Errorf("chunk %d ends with %v", i, got)
		}
	}
}

// P2.1: the statements of closures are numbered behind the one in whose expression they stand, ahead of its Body and Else.
func TestLines(t *testing.T) {
	c := compiled(t, main("if fn () { 1; }.() { 2; } else { fn () { 3; 4; }; 5; } while fn () { 6; } == 0 { 7; } 8[fn () { 9; }] = fn () { 10; }; 11;"))
	lines := map[int64]int{1: 1, 2: 2, 3: 4, 4: 5, 5: 6, 6: 8, 7: 9, 8: 10, 9: 11, 10: 12, 11: 13}
	for _, k := range c.Chunks {
		for _, i := range k.Code {
			if i.K != 0 && i.Line != lines[i.K] {
				t.Errorf("the number %d is at line %d", i.K, i.Line)
			}
		}
	}
	if got, want := listing(c.Chunks[0]), "close a1; apply; branch a5; const k2 @2; jump a7; close a2 @3; const k5 @6; "+
		"close a3 @7; const d1 @7; binary a5 @7; branch a13 @7; const k7 @9; jump a7 @7; "+
		"const k8 @10; close d1 a4 @10; close d2 a5 @10; store @10; const k11 @13"; got != want {
		t.Errorf("main: %s", got)
	}
}

// P2.1: how many registers there are.
func TestRegs(t *testing.T) {
	for text, want := range map[string]int{
		"":                                       3,
		"let x = 1; let y = 2;":                  5,
		"a;":                                     3,
		"a + b;":                                 4,
		"a[b];":                                  4,
		"a[b] = 1;":                              5,
		"new(a); len(a); -a; !a; input; clock;":  3,
		"z();":                                   3,
		"spawn z();":                             3,
		"f(1, 2);":                               4,
		"a.();":                                  3,
		"a.(1, 2, 3);":                           6,
		"fn () { };":                             3,
		"fn () { a; };":                          3,
		"fn () { a; b; };":                       4,
		"1 + (2 + fn () { a; b; });":             6,
		"1 + (2 + (3 + z()));":                   6,
		"try { } catch e { }":                    4,
		"if a { while b { } }":                   3,
		"a[1][2] = 3 + (4 + 5);":                 7,
		"1 == 2 * 3; 1 + 2 * 3 - (4 - (5 - 6));": 6,
	} {
		c := compiled(t, "fun f(a, b) { "+text+" } fun main() { } fun z() { }")
		if got := c.Chunks[0].Regs; got != want {
			t.Errorf("%s: %d registers", text, got)
		}
	}
}

// P2.1: the errors of lang.Check, and nothing beside them.
func TestCompileErrors(t *testing.T) {
	deep := api.Node{Kind: api.KiNum}
	for range api.MaxDepth {
		deep = api.Node{Kind: api.KiUnary, Text: "-", Subs: []api.Node{deep}}
	}
	for _, p := range []api.Program{
		{},
		{Funcs: make([]api.Func, api.MaxFuncs+1)},
		{Funcs: []api.Func{{Name: "if"}}},
		{Funcs: []api.Func{{Name: "main", Body: []api.Node{{Kind: 200}}}}},
		{Funcs: []api.Func{{Name: "main", Body: []api.Node{{Kind: api.KiDo, Subs: []api.Node{deep}}}}}},
		parsed(t, "fun main() { y; }"),
		parsed(t, "fun main(a) { }"),
		parsed(t, "fun main() { let x = 1; let x = 2; }"),
		parsed(t, "fun f() { } fun f() { } fun main() { }"),
		parsed(t, "fun f() { } fun main() { f(1); }"),
	} {
		want := lang.Check(p)
		if want == api.OK {
			t.Fatalf("%v is correct", p)
		}
		if c, e := machine.Compile(p); e != want || c.Chunks != nil || c.Main != 0 {
			t.Errorf("Compile: error %d, not %d, %v", e, want, c)
		}
		if m, e := machine.New(p, api.Given{Inputs: make([]int64, api.MaxGiven+1)}); e != want || m != nil {
			t.Errorf("New: error %d, not %d", e, want)
		}
		if m, e := machine.Resume(p, api.Given{}, api.State{}); e != want || m != nil {
			t.Errorf("Resume: error %d, not %d", e, want)
		}
		if o, e := machine.Run(p, api.Given{}, 9); e != want || !reflect.DeepEqual(o, api.Outcome{}) {
			t.Errorf("Run: error %d, not %d", e, want)
		}
	}
}

// P2.1: the greatest programs are compiled.
func TestLargest(t *testing.T) {
	var params, args []string
	for i := range api.MaxParams {
		params, args = append(params, fmt.Sprint("p", i)), append(args, fmt.Sprint("0 + ", i))
	}
	text := "fun f(" + strings.Join(params, ", ") + ") { "
	for i := api.MaxParams; i < api.MaxNames; i++ {
		text += fmt.Sprintf("let p%d = %d; ", i, i)
	}
	// the sum stands at the depth 5: in a return, an apply, a closure and a return
	const terms = api.MaxDepth - 5
	sum, want := strings.Repeat("(", terms)+"p0", int64(0)
	for i := range terms {
		sum += fmt.Sprintf(" + p%d)", api.MaxNames-1-i)
		want += int64(api.MaxNames - 1 - i)
	}
	text += "return fn () { return " + sum + "; }.(); } fun main() { print f(" + strings.Join(args, ", ") + "); }"
	for i := 2; i < api.MaxFuncs; i++ {
		text += fmt.Sprintf(" fun g%d() { }", i)
	}
	c := compiled(t, text)
	if k := c.Chunks[api.MaxFuncs]; k.Held != terms+1 || c.Chunks[0].Regs < api.MaxNames {
		t.Errorf("%d held, %d registers", k.Held, c.Chunks[0].Regs)
	}
	if o := finished(t, text, api.Given{}); o.End != api.EnDone || len(o.Out) != 1 || o.Out[0] != want {
		t.Errorf("%+v", o)
	}
}

// P2.9: programs with equal written forms have equal code.
func TestEqualText(t *testing.T) {
	text := "fun f(a) { try { return (a + (1)) * 2; } catch e { throw e; } } fun main() { # a remark\nif f(1) { print 1; } else { } }"
	p := parsed(t, text)
	s, e := lang.Print(p)
	if e != api.OK || !reflect.DeepEqual(compiled(t, text), compiled(t, s)) {
		t.Errorf("error %d, %s", e, s)
	}
	q := parsed(t, s)
	q.Funcs[0].Body[0].Subs, q.Funcs[1].Body[0].Else = []api.Node{}, []api.Node{}
	if c, e := machine.Compile(q); e != api.OK || !reflect.DeepEqual(c, compiled(t, text)) {
		t.Errorf("empty lists: error %d, %v", e, c)
	}
}

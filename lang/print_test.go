package lang_test

import (
	"math"
	"slices"
	"strings"
	"testing"

	"sleuth/api"
	"sleuth/lang"
)

// everything is a written form with every kind of node.
const everything = `fun f(a, b) {
  try {
    throw a[b];
  } catch c {
    return -c;
  }
}
fun g() {
}
fun main() {
  let o = new(2);
  o[0] = fn (k) {
    return k + 1;
  };
  if o[0].(1) == 2 {
    print len(o);
  } else {
    assert !clock;
  }
  if o {
  }
  while 9223372036854775807 {
    o = g();
  }
  try {
  } catch e {
  }
  let t = spawn f(o, input);
  join t;
  lock o;
  unlock o;
  f(1, (2 + 3) * 4);
  if fn () {
    if 1 {
      0;
    }
  } {
    g.(fn (x, y) {
    }, fn () {
      x;
    });
  } else {
    1;
  }
}
`

// P1.6: the written form of programs.
func TestPrint(t *testing.T) {
	if s := printed(t, parsed(t, everything)); s != everything {
		t.Errorf("%s", s)
	}
	// The same words with other blanks make the same program.
	if s := printed(t, parsed(t, strings.Join(strings.Fields(everything), "\n#\n"))); s != everything {
		t.Errorf("%s", s)
	}
	if s := printed(t, api.Program{}); s != "" {
		t.Errorf("%q", s)
	}
	first := parsed(t, "fun main() { let x = 1; while x < 9 { x = x * 2; } print x; }")
	if s := printed(t, first); s != "fun main() {\n  let x = 1;\n  while x < 9 {\n    x = x * 2;\n  }\n  print x;\n}\n" {
		t.Errorf("%q", s)
	}
	for i, c := range []struct {
		p    api.Program
		want api.Errno
	}{
		{program(num(1)), api.ErrArg},
		{program(do(num(-1))), api.ErrArg},
		{program(many(api.MaxNodes)...), api.ErrLimit},
	} {
		if s, e := lang.Print(c.p); e != c.want || s != "" {
			t.Errorf("%d: %q, error %d, want %d", i, s, e, c.want)
		}
		if sum, e := lang.Digest(c.p); e != c.want || sum != 0 {
			t.Errorf("%d: digest %d, error %d, want %d", i, sum, e, c.want)
		}
	}
}

// longProgram returns a program whose written form has so many bytes, at least 100 and at most 70000.
func longProgram(t *testing.T, size int) api.Program {
	t.Helper()
	wide := do(fn(slices.Repeat([]string{"abcdefghijklmnop"}, api.MaxParams)))
	empty := len(printed(t, program()))
	width := len(printed(t, program(wide))) - empty
	left := size - empty - 6
	body := slices.Repeat([]api.Node{wide}, left/width)
	for left = left%width + 6; left > 23; left -= 18 {
		body = append(body, numberLine(18))
	}
	return program(append(body, numberLine(left))...)
}

// numberLine returns a statement whose line in main has so many bytes, from 5 to 23: two blanks, the digits, and the end.
func numberLine(bytes int) api.Node {
	n := int64(1)
	for range bytes - 5 {
		n *= 10
	}
	return do(num(n))
}

// P1.6, P1.12: the limit of a written form.
func TestPrintLimit(t *testing.T) {
	p := longProgram(t, api.MaxText)
	s, e := lang.Print(p)
	if e != api.OK || len(s) != api.MaxText {
		t.Fatal(len(s), e)
	}
	if _, e := lang.Digest(p); e != api.OK {
		t.Fatal(e)
	}
	if q := parsed(t, s); !lang.Same(p, q) {
		t.Fatal("parsed again it is another program")
	}
	p = longProgram(t, api.MaxText+1)
	if e := lang.Shape(p); e != api.OK {
		t.Fatal(e)
	}
	if s, e := lang.Print(p); e != api.ErrLimit || s != "" {
		t.Fatal(len(s), e)
	}
	if sum, e := lang.Digest(p); e != api.ErrLimit || sum != 0 {
		t.Fatal(sum, e)
	}
}

// P1.6: the written form of expressions, with parentheses where they are needed and nowhere else.
func TestExpr(t *testing.T) {
	a, b := name("a"), name("b")
	sum := node(api.KiBinary, "+", a, b)
	neg := node(api.KiUnary, "-", a)
	load := node(api.KiLoad, "", a, b)
	call := node(api.KiCall, "f", a)
	apply := node(api.KiApply, "", a, b)
	empty := fn(nil)
	for want, n := range map[string]api.Node{
		"0":                       num(0),
		"9223372036854775807":     num(math.MaxInt64),
		"a":                       a,
		"-a":                      neg,
		"!-a":                     node(api.KiUnary, "!", neg),
		"--a":                     node(api.KiUnary, "-", neg),
		"-(a + b)":                node(api.KiUnary, "-", sum),
		"-a[b]":                   node(api.KiUnary, "-", load),
		"-f(a)":                   node(api.KiUnary, "-", call),
		"a + b":                   sum,
		"(a + b) + (a + b)":       node(api.KiBinary, "+", sum, sum),
		"-a * -a":                 node(api.KiBinary, "*", neg, neg),
		"a[b] == a.(b)":           node(api.KiBinary, "==", load, apply),
		"(a + b)[a + b]":          node(api.KiLoad, "", sum, sum),
		"(-a)[-a]":                node(api.KiLoad, "", neg, neg),
		"a[b][a[b]]":              node(api.KiLoad, "", load, load),
		"f(a)[0]":                 node(api.KiLoad, "", call, num(0)),
		"1[2]":                    node(api.KiLoad, "", num(1), num(2)),
		"(a + b).(a + b, -a)":     node(api.KiApply, "", sum, sum, neg),
		"(-a).()":                 node(api.KiApply, "", neg),
		"a.(b).(a)":               node(api.KiApply, "", apply, a),
		"f()":                     node(api.KiCall, "f"),
		"f(a + b, -a, a)":         node(api.KiCall, "f", sum, neg, a),
		"spawn f()":               node(api.KiSpawn, "f"),
		"spawn f(a, b)[0]":        node(api.KiLoad, "", node(api.KiSpawn, "f", a, b), num(0)),
		"new(a + b)":              node(api.KiNew, "", sum),
		"len(-a)":                 node(api.KiLen, "", neg),
		"input":                   node(api.KiInput, ""),
		"clock":                   node(api.KiClock, ""),
		"fn () {\n}":              empty,
		"-fn () {\n}":             node(api.KiUnary, "-", empty),
		"fn () {\n}[0]":           node(api.KiLoad, "", empty, num(0)),
		"fn () {\n}.(fn () {\n})": node(api.KiApply, "", empty, empty),
		"fn (a, b) {\n  if a {\n    a + b;\n  }\n} + 1": node(api.KiBinary, "+", fn([]string{"a", "b"}, api.Node{Kind: api.KiIf, Subs: []api.Node{a}, Body: []api.Node{do(sum)}}), num(1)),
	} {
		if s, e := lang.Expr(n); e != api.OK || s != want {
			t.Errorf("%q, error %d, want %q", s, e, want)
		}
		if p := parsed(t, "fun main() { "+want+"; }"); !lang.Same(p, program(do(n))) {
			t.Errorf("%q: parsed again it is another expression", want)
		}
	}
	if s, e := lang.Expr(nested(api.MaxDepth - 1)); e != api.OK || s != strings.Repeat("-", api.MaxDepth-2)+"1" {
		t.Error(s, e)
	}
	for i, n := range []api.Node{
		{}, {Kind: 99}, do(a), node(api.KiLet, "x", a), num(-1), name("A"), name("fn"), node(api.KiUnary, "+", a), node(api.KiNum, "x"),
		node(api.KiUnary, "-", do(a)), fn(nil, do(fn(nil))), nested(api.MaxDepth), nested(70000), fn(nil, many(api.MaxNodes/2)...),
	} {
		if s, e := lang.Expr(n); e != api.ErrArg || s != "" {
			t.Errorf("%d: %q, error %d", i, s, e)
		}
	}
	if s, e := lang.Expr(fn(nil, many(api.MaxNodes/2-1)...)); e != api.OK || len(s) != 8+5*(api.MaxNodes/2-1)+1 {
		t.Error(len(s), e)
	}
}

// P1.12: the sum of the written form.
func TestDigest(t *testing.T) {
	for text, want := range map[string]uint64{
		"":               14695981039346656037,
		"fun main() { }": fnv("fun main() {\n}\n"),
		everything:       fnv(everything),
	} {
		if sum, e := lang.Digest(parsed(t, text)); e != api.OK || sum != want {
			t.Errorf("%q: %d, error %d, want %d", text, sum, e, want)
		}
	}
	// The published sums of these strings.
	if fnv("a") != 0xaf63dc4c8601ec8c || fnv("foobar") != 0x85944171f73967e8 {
		t.Error("the test's own sum is wrong")
	}
}

func fnv(s string) uint64 {
	sum := uint64(14695981039346656037)
	for _, b := range []byte(s) {
		sum ^= uint64(b)
		sum *= 1099511628211
	}
	return sum
}

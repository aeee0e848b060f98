package lang_test

import (
	"slices"
	"strings"
	"testing"

	"sleuth/api"
	"sleuth/lang"
)

// numbered prints in each statement its number.
const numbered = `fun f() {
  print 0;
}
fun g() {
}
fun main() {
  while 1 == fn () {
    print 2;
    if 3 {
      print 4;
    } else {
      print 5;
      print 6;
    }
  } + 0 * fn (a) {
    print 7;
  } {
    print 8;
    try {
      print 10;
    } catch e {
      print 11;
    }
  }
  print 12;
}
`

// P1.7: Count.
func TestCount(t *testing.T) {
	for text, want := range map[string]int{"": 0, "fun main() { }": 0, numbered: 13, "fun main() { let x = 1; while x < 9 { x = x * 2; } print x; }": 4} {
		if got := lang.Count(parsed(t, text)); got != want {
			t.Errorf("%s: %d, want %d", text, got, want)
		}
	}
	if n := lang.Count(program(many(api.MaxNodes / 2)...)); n != api.MaxNodes/2 {
		t.Error(n)
	}
	for i, p := range []api.Program{program(num(1)), program(do(num(1)), do(num(-1))), program(many(api.MaxNodes)...), program(do(nested(api.MaxDepth)))} {
		if n := lang.Count(p); n != 0 {
			t.Errorf("%d: %d", i, n)
		}
	}
}

// P1.7: At.
func TestAt(t *testing.T) {
	p := parsed(t, numbered)
	for n, kind := range map[int]api.Kind{1: api.KiWhile, 3: api.KiIf, 9: api.KiTry} {
		if s, e := lang.At(p, n); e != api.OK || s.Kind != kind {
			t.Errorf("%d: %v, error %d", n, s, e)
		}
	}
	for _, n := range []int{0, 2, 4, 5, 6, 7, 8, 10, 11, 12} {
		if s, e := lang.At(p, n); e != api.OK || !lang.Same(program(s), program(node(api.KiPrint, "", num(int64(n))))) {
			t.Errorf("%d: %v, error %d", n, s, e)
		}
	}
	if s, _ := lang.At(p, 1); !lang.Same(program(s), program(p.Funcs[2].Body[0])) {
		t.Error(s)
	}
}

// P1.7: Where.
func TestWhere(t *testing.T) {
	p := parsed(t, numbered)
	for n, want := range []lang.Spot{
		{Func: 0, Parent: -1, Size: 1},
		{Func: 2, Parent: -1, Size: 11},
		{Func: 2, Fn: true, Parent: 1, Part: 3, Index: 0, Size: 1},
		{Func: 2, Fn: true, Parent: 1, Part: 3, Index: 1, Size: 4},
		{Func: 2, Fn: true, Parent: 3, Part: 1, Index: 0, Size: 1},
		{Func: 2, Fn: true, Parent: 3, Part: 2, Index: 0, Size: 1},
		{Func: 2, Fn: true, Parent: 3, Part: 2, Index: 1, Size: 1},
		{Func: 2, Fn: true, Parent: 1, Part: 3, Index: 0, Size: 1},
		{Func: 2, Parent: 1, Part: 1, Index: 0, Size: 1},
		{Func: 2, Parent: 1, Part: 1, Index: 1, Size: 3},
		{Func: 2, Parent: 9, Part: 1, Index: 0, Size: 1},
		{Func: 2, Parent: 9, Part: 2, Index: 0, Size: 1},
		{Func: 2, Parent: -1, Index: 1, Size: 1},
	} {
		if got, e := lang.Where(p, n); e != api.OK || got != want {
			t.Errorf("%d: %+v, error %d, want %+v", n, got, e, want)
		}
	}
}

// P1.7, P1.8: numbers that there are not, and programs that are not well formed.
func TestEditErrors(t *testing.T) {
	large := program(many(api.MaxNodes)...)
	for i, c := range []struct {
		p    api.Program
		n    int
		want api.Errno
	}{
		{parsed(t, numbered), 13, api.ErrNone}, {parsed(t, numbered), -1, api.ErrNone}, {parsed(t, numbered), 1 << 40, api.ErrNone},
		{api.Program{}, 0, api.ErrNone}, {program(), 0, api.ErrNone}, {program(num(1)), 0, api.ErrArg}, {program(num(1)), 9, api.ErrArg}, {large, 0, api.ErrLimit},
	} {
		if s, e := lang.At(c.p, c.n); e != c.want || !lang.Same(program(s), program(api.Node{})) {
			t.Errorf("At %d: %v, error %d, want %d", i, s, e, c.want)
		}
		if s, e := lang.Where(c.p, c.n); e != c.want || s != (lang.Spot{}) {
			t.Errorf("Where %d: %v, error %d, want %d", i, s, e, c.want)
		}
		for _, with := range [][]api.Node{nil, many(1), {num(1)}} {
			if q, e := lang.Replace(c.p, c.n, with); e != c.want || q.Funcs != nil {
				t.Errorf("Replace %d: %v, error %d, want %d", i, q, e, c.want)
			}
		}
	}
	for _, keep := range [][]bool{nil, make([]bool, 12), make([]bool, 14)} {
		if q, e := lang.Keep(parsed(t, numbered), keep); e != api.ErrArg || q.Funcs != nil {
			t.Errorf("Keep of %d: error %d", len(keep), e)
		}
	}
	if q, e := lang.Keep(large, nil); e != api.ErrLimit || q.Funcs != nil {
		t.Errorf("Keep: error %d", e)
	}
	if q, e := lang.Keep(program(num(1)), nil); e != api.ErrArg || q.Funcs != nil {
		t.Errorf("Keep: error %d", e)
	}
	if q, e := lang.Keep(api.Program{}, nil); e != api.OK || q.Funcs != nil {
		t.Errorf("Keep: error %d", e)
	}
}

// shown returns a program on one line.
func shown(t *testing.T, p api.Program) string {
	t.Helper()
	return strings.Join(strings.Fields(printed(t, p)), " ")
}

// P1.8: Replace.
func TestReplace(t *testing.T) {
	base := parsed(t, "fun f() { 0; } fun main() { if fn () { 2; 3; } { 4; } else { 5; } 6; }")
	x := parsed(t, "fun main() { x; y = fn () { z; }; }").Funcs[0].Body
	for _, c := range []struct {
		n    int
		with []api.Node
		want string
	}{
		{0, nil, "fun f() { } fun main() { if fn () { 2; 3; } { 4; } else { 5; } 6; }"},
		{0, x, "fun f() { x; y = fn () { z; }; } fun main() { if fn () { 2; 3; } { 4; } else { 5; } 6; }"},
		{1, x, "fun f() { 0; } fun main() { x; y = fn () { z; }; 6; }"},
		{1, nil, "fun f() { 0; } fun main() { 6; }"},
		{2, x[:1], "fun f() { 0; } fun main() { if fn () { x; 3; } { 4; } else { 5; } 6; }"},
		{3, []api.Node{}, "fun f() { 0; } fun main() { if fn () { 2; } { 4; } else { 5; } 6; }"},
		{4, x, "fun f() { 0; } fun main() { if fn () { 2; 3; } { x; y = fn () { z; }; } else { 5; } 6; }"},
		{5, nil, "fun f() { 0; } fun main() { if fn () { 2; 3; } { 4; } 6; }"},
		{5, x[:1], "fun f() { 0; } fun main() { if fn () { 2; 3; } { 4; } else { x; } 6; }"},
		{6, slices.Repeat(x[:1], 3), "fun f() { 0; } fun main() { if fn () { 2; 3; } { 4; } else { 5; } x; x; x; }"},
	} {
		q, e := lang.Replace(base, c.n, c.with)
		if e != api.OK || shown(t, q) != c.want {
			t.Errorf("%d: error %d, %v", c.n, e, q)
		}
	}
	for i, c := range []struct {
		n    int
		with []api.Node
		want api.Errno
	}{
		{2, x, api.ErrArg}, // a closure inside a closure
		{0, []api.Node{num(1)}, api.ErrArg},
		{0, []api.Node{{}}, api.ErrArg},
		{0, []api.Node{{Kind: 200}}, api.ErrArg},
		{0, make([]api.Node, api.MaxNodes), api.ErrLimit},
		{0, []api.Node{do(nested(api.MaxDepth))}, api.ErrLimit},
		{0, []api.Node{do(nested(70000))}, api.ErrLimit},
		{0, []api.Node{do(nested(api.MaxDepth - 1))}, api.OK},
		{4, []api.Node{do(nested(api.MaxDepth - 1))}, api.ErrLimit},
		{4, []api.Node{do(nested(api.MaxDepth - 2))}, api.OK},
	} {
		if q, e := lang.Replace(base, c.n, c.with); e != c.want || e != api.OK && q.Funcs != nil {
			t.Errorf("%d: error %d, want %d", i, e, c.want)
		}
	}
	full := program(many(api.MaxNodes / 2)...)
	if _, e := lang.Replace(full, 7, many(1)); e != api.OK {
		t.Error(e)
	}
	if q, e := lang.Replace(full, 7, many(2)); e != api.ErrLimit || q.Funcs != nil {
		t.Error(e)
	}
}

// P1.8: Keep.
func TestKeep(t *testing.T) {
	base := parsed(t, "fun f() { 0; } fun main() { if fn () { 2; 3; } { 4; } else { 5; } 6; }")
	for mask, want := range map[string]string{
		"1111111": "fun f() { 0; } fun main() { if fn () { 2; 3; } { 4; } else { 5; } 6; }",
		"0000000": "fun f() { } fun main() { }",
		"0111111": "fun f() { } fun main() { if fn () { 2; 3; } { 4; } else { 5; } 6; }",
		"1011111": "fun f() { 0; } fun main() { 6; }",
		"1000001": "fun f() { 0; } fun main() { 6; }",
		"1010101": "fun f() { 0; } fun main() { 6; }",
		"1101111": "fun f() { 0; } fun main() { if fn () { 3; } { 4; } else { 5; } 6; }",
		"1100110": "fun f() { 0; } fun main() { if fn () { } { 4; } else { 5; } }",
		"0111010": "fun f() { } fun main() { if fn () { 2; 3; } { } else { 5; } }",
		"1111101": "fun f() { 0; } fun main() { if fn () { 2; 3; } { 4; } 6; }",
	} {
		var keep []bool
		for _, c := range mask {
			keep = append(keep, c == '1')
		}
		q, e := lang.Keep(base, keep)
		if e != api.OK || shown(t, q) != want {
			t.Errorf("%s: error %d, %v", mask, e, q)
		}
	}
	q, e := lang.Keep(parsed(t, "fun main() { let x = 1; while x < 9 { x = x * 2; } print x; }"), []bool{true, true, false, true})
	if e != api.OK || shown(t, q) != "fun main() { let x = 1; while x < 9 { } print x; }" {
		t.Error(e, q)
	}
}

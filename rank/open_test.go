package rank_test

import (
	"slices"
	"strings"
	"testing"

	"sleuth/api"
	"sleuth/lang"
	"sleuth/rank"
)

// P7.3: the statements that can be opened.
func TestOpenable(t *testing.T) {
	for text, want := range map[string]string{
		"fun main() { }": "",
		"fun main() { let x = 1; x = 2; print x; return x; }":                                                                   "0 1 2 3",
		"fun main() { let o = new(1); o[0] = 1; if o[0] { } while 0 { } }":                                                      "0 1 2 3",
		"fun main() { let o = new(1); lock o; unlock o; assert 1; join 1; 5; try { throw 1; } catch x { } }":                    "0",
		"fun f(a) { return a; } fun main() { f(1); try { print 1; } catch x { print 2; } if 1 { print 3; } else { print 4; } }": "0 3 4 5 6 7",
		// 1 and 2 stand in the closure of 0, 4 in that of 3, which can't be opened itself
		"fun main() { let g = fn (a) { a = 1; return a; }; fn () { print 1; }; g.(2); print 3; }": "0 1 2 4 6",
	} {
		if l, e := rank.Openable(parsed(t, text)); e != api.OK || !slices.Equal(l, numbers(want)) {
			t.Errorf("Openable(%s): error %d, %v, want %s", text, e, l, want)
		}
	}
	for _, text := range []string{
		"fun main() { print clock; }", "fun main() { clock; }", "fun f() { return 1 + clock; } fun main() { }", "fun main() { let g = fn () { assert clock; }; }",
		"fun main() { if 1 { } else { try { } catch x { join 0 - (2 * len(new(clock))); } } }",
	} {
		if l, e := rank.Openable(parsed(t, text)); e != api.ErrScope || len(l) > 0 {
			t.Errorf("Openable(%s): error %d, %v", text, e, l)
		}
	}
}

// P7.3: the opened program.
func TestOpen(t *testing.T) {
	// 0 return; 1 let g (2, 3), 4 let o, 5 store (6, 7; 8), 9 if, 10 print, 11 store, 12 while (13), 14 set (15)
	whole := "fun f(a) { return a + 1; } fun main() { let g = fn (b) { b = b + 1; return b; }; let o = new(2); fn () { print 0; return o; }.()[g.(0)] = fn () { print 1; }.(); " +
		"if g.(1) == 2 { print f(3); } else { o[0] = o[1] + 1; } while fn () { return 0; }.() { g = fn (c) { print c; }; } }"
	p := parsed(t, whole)
	for at, change := range map[string][]string{
		"":        nil,
		"0":       {"return a + 1;", "return clock;"},
		"1":       {"fn (b) { b = b + 1; return b; }", "clock"},
		"2":       {"b = b + 1", "b = clock"},
		"2 3":     {"b = b + 1; return b", "b = clock; return clock"},
		"1 2 3":   {"fn (b) { b = b + 1; return b; }", "clock"}, // 2 and 3 disappear with what 1 computes
		"4":       {"new(2)", "clock"},
		"5":       {"fn () { print 1; }.()", "clock"},
		"6":       {"print 0", "print clock"}, // what the store's object is stays
		"8":       {"print 1", "print clock"},
		"5 6 7 8": {"fn () { print 0; return o; }.()[g.(0)] = fn () { print 1; }.()", "fn () { print clock; return clock; }.()[g.(0)] = clock"},
		"9":       {"if g.(1) == 2", "if clock"},
		"10":      {"f(3)", "clock"},
		"11":      {"o[1] + 1", "clock"},
		"9 10 11": {"if g.(1) == 2 { print f(3); } else { o[0] = o[1] + 1; }", "if clock { print clock; } else { o[0] = clock; }"},
		"12":      {"while fn () { return 0; }.()", "while clock"},
		"12 13":   {"while fn () { return 0; }.()", "while clock"},
		"13":      {"return 0", "return clock"},
		"14":      {"fn (c) { print c; }", "clock"},
		"14 15":   {"fn (c) { print c; }", "clock"},
		"12 15":   {"while fn () { return 0; }.() { g = fn (c) { print c; }; }", "while clock { g = fn (c) { print clock; }; }"},
		"0 15":    {"a + 1", "clock", "print c", "print clock"},
	} {
		q, e := rank.Open(p, numbers(at))
		if want := strings.NewReplacer(change...).Replace(whole); e != api.OK || written(t, q) != want {
			t.Errorf("Open(%s): error %d, %s, want %s", at, e, written(t, q), want)
		}
		if e := lang.Check(q); e != api.OK {
			t.Errorf("Open(%s): error %d of lang.Check", at, e)
		}
	}
}

// P7.3: the errors of Openable and of Open.
func TestOpenErrors(t *testing.T) {
	// 0 let, 1 lock, 2 print
	p := body(t, "let o = new(1); lock o; print 1;")
	clock := body(t, "let o = new(clock); lock o; print 1;")
	for _, at := range [][]int{{-1}, {1}, {3}, {0, 1}, {0, 1, 2}, {2, 0}, {0, 0}, {0, 3}, {-1, 0}, {1 << 62}, {-1 << 63, 2}} {
		if q, e := rank.Open(p, at); e != api.ErrArg || len(q.Funcs) > 0 {
			t.Errorf("Open(%v): error %d, %v", at, e, q)
		}
		if q, e := rank.Open(clock, at); e != api.ErrScope || len(q.Funcs) > 0 {
			t.Errorf("Open(%v) with a clock: error %d, %v", at, e, q)
		}
	}
	for want, l := range brokenPrograms(t) {
		for i, p := range l {
			if l, e := rank.Openable(p); e != want || len(l) > 0 {
				t.Errorf("Openable, program %d: error %d, %v, want %d", i, e, l, want)
			}
			if q, e := rank.Open(p, []int{-1}); e != want || len(q.Funcs) > 0 {
				t.Errorf("Open, program %d: error %d, %v, want %d", i, e, q, want)
			}
		}
	}
}

// modelOpen opens one statement behind the other, the last one first, so that the numbers of the others stay.
func modelOpen(t *testing.T, p api.Program, at []int) api.Program {
	t.Helper()
	for _, n := range slices.Backward(at) {
		node, _ := lang.At(p, n)
		node.Subs[len(node.Subs)-1] = api.Node{Kind: api.KiClock}
		q, e := lang.Replace(p, n, []api.Node{node})
		if e != api.OK {
			t.Fatalf("Replace(%d): error %d", n, e)
		}
		p = q
	}
	return p
}

// modelOpenable returns the statements of some kinds.
func modelOpenable(p api.Program) []int {
	kinds := []api.Kind{api.KiLet, api.KiSet, api.KiPrint, api.KiReturn, api.KiStore, api.KiIf, api.KiWhile}
	var l []int
	for n := range lang.Count(p) {
		if node, _ := lang.At(p, n); slices.Contains(kinds, node.Kind) {
			l = append(l, n)
		}
	}
	return l
}

// P7.3: of random programs, the statements that can be opened, and what the opened programs are; these are correct.
func TestRandomOpen(t *testing.T) {
	programs(t, 400, 12, false, func(m *maker, p api.Program) {
		l, e := rank.Openable(p)
		if e != api.OK || !slices.Equal(l, modelOpenable(p)) {
			t.Fatalf("Openable: error %d, %v, want %v", e, l, modelOpenable(p))
		}
		for range 4 {
			at := some(m.Rand, l, 1+m.Intn(5))
			q, e := rank.Open(p, at)
			if e != api.OK || !lang.Same(q, modelOpen(t, p, at)) || lang.Check(q) != api.OK {
				t.Fatalf("Open(%v): error %d, %s", at, e, written(t, q))
			}
		}
	})
}

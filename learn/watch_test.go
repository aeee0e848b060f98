package learn_test

import (
	"slices"
	"testing"

	"sleuth/api"
	"sleuth/lang"
	"sleuth/learn"
	"sleuth/machine"
)

// P8.3: the names that are watched at the statements of a program, in functions and in closures.
func TestWatched(t *testing.T) {
	p := parsed(t, `fun f(a, b) { let c = 1; print a; return b; }
		fun main() {
			let x = 1;
			try { let y = 2; throw y; } catch z { print z; }
			let g = fn (p) { print x; let q = p; if q { let s = q; } print z + q; };
			let h = fn () { x = 2; let u = fn1(3); return u; };
			g.((fn (v) { return v + y; }).(1));
			print h.();
		}
		fun fn1(w) { return w; }`)
	want := []string{
		"a b", "a b c", "a b c", // 0 to 2: let c, print a, return b
		"", "x", "x", "x y", "x y z", // 3 to 7: let x, try, let y, throw y, print z
		"x y z",                                             // 8: let g
		"x z p", "x z p", "x z p q", "x z p q", "x z p q s", // 9 to 13: print x, let q, if, let s, print z + q
		"x y z g", "x", "x", "x u", // 14 to 17: let h, x = 2, let u, return u
		"x y z g h", "y v", "x y z g h", // 18 to 20: g.(..), return v + y, print
		"w", // 21: return w
	}
	if n := lang.Count(p); n != len(want) {
		t.Fatal(n)
	}
	for n, s := range want {
		if l, e := learn.Watched(p, n); e != api.OK || !slices.Equal(l, names(s)) {
			t.Errorf("statement %d: %v, error %d, not %s", n, l, e, s)
		}
	}
}

// P8.3: at most the first MaxVars names, and those of a closure that are its own are among them.
func TestWatchedMany(t *testing.T) {
	p := body(t, "let a = 1; let b = 1; let c = 1; let d = 1; let e = 1; let f = 1; let g = 1; let h = 1; let i = 1; let j = 1; let k = fn (l, m) { print j + i; let n = 1; print n; }; print 1;")
	for n, want := range []string{"", "a", "a b", "a b c", "a b c d", "a b c d e", "a b c d e f", "a b c d e f g", "a b c d e f g h", "a b c d e f g h", "a b c d e f g h", "i j l m", "i j l m", "i j l m n", "a b c d e f g h"} {
		if l, e := learn.Watched(p, n); e != api.OK || !slices.Equal(l, names(want)) {
			t.Errorf("statement %d: %v, error %d, not %s", n, l, e, want)
		}
	}
}

// P8.3: the errors of Watched are those of lang.Names.
func TestWatchedErrors(t *testing.T) {
	p := body(t, "let a = 1; print a;")
	for _, n := range []int{least, -1, 2, 1<<63 - 1} {
		if l, e := learn.Watched(p, n); e != api.ErrNone || l != nil {
			t.Error(n, l, e)
		}
	}
	for want, q := range brokenPrograms(t) {
		if l, e := learn.Watched(q, 0); e != want || l != nil {
			t.Error(want, l, e)
		}
	}
}

// withPrint returns the program with a print of a name at the end of the function, or of the closure, in which a statement stands.
func withPrint(t *testing.T, p api.Program, n int, name string) (api.Program, bool) {
	t.Helper()
	text := api.Node{Kind: api.KiPrint, Subs: []api.Node{{Kind: api.KiName, Text: name}}}
	spot := spotOf(t, p, n)
	if !spot.Fn {
		q := api.Program{Funcs: slices.Clone(p.Funcs)}
		f := &q.Funcs[spot.Func]
		f.Body = append(slices.Clip(f.Body), text)
		return q, true
	}
	for spot.Part != 3 {
		n = spot.Parent
		spot = spotOf(t, p, n)
	}
	// The last statement of the closure's own list gets another one behind it.
	for m := n + spot.Size; m < lang.Count(p); m += spotOf(t, p, m).Size {
		next := spotOf(t, p, m)
		if next.Parent != spot.Parent || next.Part != 3 || next.Index != spot.Index+1 {
			break
		}
		n, spot = m, next
	}
	node, e := lang.At(p, n)
	if e != api.OK {
		t.Fatal(e)
	}
	q, e := lang.Replace(p, n, []api.Node{node, text})
	return q, e == api.OK
}

func spotOf(t *testing.T, p api.Program, n int) lang.Spot {
	t.Helper()
	s, e := lang.Where(p, n)
	if e != api.OK {
		t.Fatal(n, e)
	}
	return s
}

// watched tells which names are watched at a statement, and which registers they have: it prints each name that is visible there at the end of the chunk, and reads from the code which register that moves.
func watched(t *testing.T, p api.Program, n int) (l []string, registers []int) {
	t.Helper()
	visible, e := lang.Names(p, n)
	if e != api.OK {
		t.Fatal(e)
	}
	before, _ := machine.Compile(p)
	chunk := slices.IndexFunc(before.Chunks, func(c api.Chunk) bool {
		return slices.ContainsFunc(c.Code, func(i api.Instr) bool { return i.Line == n })
	})
	for _, s := range visible {
		q, ok := withPrint(t, p, n, s)
		if !ok {
			t.Fatal("no place for a print")
		}
		after, e := machine.Compile(q)
		if e != api.OK {
			t.Fatal(e)
		}
		if after.Chunks[chunk].Held > before.Chunks[chunk].Held {
			continue // the closure does not hold it
		}
		code := after.Chunks[chunk].Code
		if move := code[len(code)-4]; len(l) < api.MaxVars && move.Op == api.OpMove {
			l = append(l, s)
			registers = append(registers, move.A)
		}
	}
	return l, registers
}

// P8.3: the watched names of random programs are those that have a register in the code.
func TestWatchedAgainstCode(t *testing.T) {
	inner, full := 0, 0
	programs(t, 50, func(m *maker, p api.Program) {
		for n := range lang.Count(p) {
			want, _ := watched(t, p, n)
			l, e := learn.Watched(p, n)
			if e != api.OK || !slices.Equal(l, want) {
				t.Errorf("statement %d: %v, error %d, not %v", n, l, e, want)
			}
			if spotOf(t, p, n).Fn {
				inner++
			}
			if len(l) == api.MaxVars {
				full++
			}
		}
	})
	if inner < 100 || full < 100 {
		t.Error(inner, full)
	}
}

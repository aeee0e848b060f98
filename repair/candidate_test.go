package repair_test

import (
	"fmt"
	"math"
	"slices"
	"strings"
	"testing"

	"sleuth/api"
	"sleuth/lang"
	"sleuth/learn"
	"sleuth/repair"
)

// withs writes what edits of a statement put in its place, with bars between them; nothing is a dash.
func withs(t *testing.T, l []api.Edit, n int) string {
	t.Helper()
	var texts []string
	for _, x := range l {
		if x.At != n {
			t.Errorf("an edit of %d, not of %d", x.At, n)
		}
		s := writtenList(t, x.With)
		if len(x.With) == 0 {
			s = "-"
		}
		texts = append(texts, s)
	}
	return strings.Join(texts, " | ")
}

// templates returns the templates of a statement, without an error.
func templates(t *testing.T, p api.Program, n int) []api.Edit {
	t.Helper()
	l, e := repair.Templates(p, n)
	if e != api.OK {
		t.Fatalf("Templates(%s, %d): error %d", written(t, p), n, e)
	}
	return l
}

// donors returns the donors for a statement, without an error.
func donors(t *testing.T, p api.Program, n int) []api.Edit {
	t.Helper()
	l, e := repair.Donors(p, n)
	if e != api.OK {
		t.Fatalf("Donors(%s, %d): error %d", written(t, p), n, e)
	}
	return l
}

// guards returns the guards of a contract, without an error.
func guards(t *testing.T, p api.Program, c api.Contract) []api.Edit {
	t.Helper()
	l, e := repair.Guards(p, c)
	if e != api.OK {
		t.Fatalf("Guards(%s, %v): error %d", written(t, p), c, e)
	}
	return l
}

// P9.3: the templates of statements of every kind, worked out by hand.
func TestTemplates(t *testing.T) {
	for _, c := range []struct {
		text string
		n    int
		want string
	}{
		{"fun main() { print 1 + 2; }", 0, "print 1 - 2; | print 1 * 2; | print 1 / 2; | print 1 % 2; | print 2 + 2; | print 0 + 2; | print 1 + 3; | print 1 + 1; | -"},
		// each operator has the others of its class
		{"fun main() { let a = clock; a - a; a * a; a / a; a % a; a != a; }", 1, "a + a; | a * a; | a / a; | a % a; | -"}, {"fun main() { let a = clock; a - a; a * a; a / a; a % a; a != a; }", 2, "a + a; | a - a; | a / a; | a % a; | -"}, {"fun main() { let a = clock; a - a; a * a; a / a; a % a; a != a; }", 3, "a + a; | a - a; | a * a; | a % a; | -"}, {"fun main() { let a = clock; a - a; a * a; a / a; a % a; a != a; }", 4, "a + a; | a - a; | a * a; | a / a; | -"}, {"fun main() { let a = clock; a - a; a * a; a / a; a % a; a != a; }", 5, "a == a; | a < a; | a <= a; | a > a; | a >= a; | -"},
		{"fun main() { let a = clock; a < a; a <= a; a > a; a >= a; a & a; a | a; }", 1, "a == a; | a != a; | a <= a; | a > a; | a >= a; | -"}, {"fun main() { let a = clock; a < a; a <= a; a > a; a >= a; a & a; a | a; }", 2, "a == a; | a != a; | a < a; | a > a; | a >= a; | -"}, {"fun main() { let a = clock; a < a; a <= a; a > a; a >= a; a & a; a | a; }", 3, "a == a; | a != a; | a < a; | a <= a; | a >= a; | -"}, {"fun main() { let a = clock; a < a; a <= a; a > a; a >= a; a & a; a | a; }", 4, "a == a; | a != a; | a < a; | a <= a; | a > a; | -"}, {"fun main() { let a = clock; a < a; a <= a; a > a; a >= a; a & a; a | a; }", 5, "a | a; | -"}, {"fun main() { let a = clock; a < a; a <= a; a > a; a >= a; a & a; a | a; }", 6, "a & a; | -"},
		// KiLet: one whose name is read cannot be left out, and what it declares is not visible ahead of it
		{"fun main() { let a = 0; let b = a; let c = a - b; }", 0, "let a = 1;"},
		{"fun main() { let a = 0; let b = a; let c = a - b; }", 1, ""},
		{"fun main() { let a = 0; let b = a; let c = a - b; }", 2, "let c = a + b; | let c = a * b; | let c = a / b; | let c = a % b; | let c = b - b; | let c = a - a; | -"},
		// the names in the order of lang.Names
		{"fun f(c, a, b) { let d = c; print b; let e = 1; } fun main() { }", 1, "print c; | print a; | print d; | -"},
		{"fun f(c, a, b) { let d = c; print b; let e = 1; } fun main() { }", 0, "let d = a; | let d = b; | -"},
		// KiSet
		{"fun main() { let a = 0; a = a & 1; a = input; }", 1, "a = a | 1; | a = a & 2; | a = a & 0; | -"},
		{"fun main() { let a = 0; a = a & 1; a = input; }", 2, "-"},
		// KiStore: all classes of changes, one after the other
		{"fun main() { let a = 1; a[a + 0] = 2 == a; }", 1, "a[a - 0] = 2 == a; | a[a * 0] = 2 == a; | a[a / 0] = 2 == a; | a[a % 0] = 2 == a; | a[a + 0] = 2 != a; | a[a + 0] = 2 < a; | a[a + 0] = 2 <= a; | a[a + 0] = 2 > a; | a[a + 0] = 2 >= a; | a[a + 1] = 2 == a; | a[a + 0] = 3 == a; | a[a + 0] = 1 == a; | -"},
		{"fun main() { let a = 1; let b = 2; a[b] = a; }", 2, "b[b] = a; | a[a] = a; | a[b] = b; | -"},
		// KiIf, KiWhile, KiAssert: the opposite, and what is in them stays
		{"fun main() { if 0 { print 1 + 2; } else { print 3; } }", 0, "if 1 { print 1 + 2; } else { print 3; } | if !0 { print 1 + 2; } else { print 3; } | -"},
		{"fun main() { while !0 { print 1; } }", 0, "while !1 { print 1; } | while !!0 { print 1; } | -"},
		{"fun main() { assert 1 | 0; }", 0, "assert 1 & 0; | assert 2 | 0; | assert 0 | 0; | assert 1 | 1; | assert !(1 | 0); | -"},
		{"fun main() { if input { let a = 1; } print a; }", 0, "if !input { let a = 1; }"},
		// KiTry has no own expressions
		{"fun main() { try { print 1; } catch e { print 2; } }", 0, "-"},
		{"fun main() { try { print 1; } catch e { print 2; } print e; }", 0, ""},
		{"fun main() { try { print 1; } catch e { print 2; } print e; }", 2, "print 3; | print 1; | -"},
		{"fun main() { try { print 1; } catch e { print 2; } }", 2, "print 3; | print 1; | -"},
		// the other kinds of statements
		{"fun f(a) { return a * 7; } fun main() { }", 0, "return a + 7; | return a - 7; | return a / 7; | return a % 7; | return a * 8; | return a * 6; | -"},
		{"fun main() { throw 0; }", 0, "throw 1; | -"}, {"fun main() { join 0; }", 0, "join 1; | -"}, {"fun main() { lock 0; }", 0, "lock 1; | -"}, {"fun main() { unlock 0; }", 0, "unlock 1; | -"}, {"fun main() { print clock; }", 0, "-"},
		// expressions of every kind, a node ahead of its Subs
		{"fun f(a) { } fun main() { f(f(1)) - -2; }", 0, "f(f(1)) + -2; | f(f(1)) * -2; | f(f(1)) / -2; | f(f(1)) % -2; | f(f(2)) - -2; | f(f(0)) - -2; | f(f(1)) - -3; | f(f(1)) - -1; | -"},
		{"fun f(a) { } fun main() { spawn f(len(0)) < new(0)[0]; }", 0, "spawn f(len(0)) == new(0)[0]; | spawn f(len(0)) != new(0)[0]; | spawn f(len(0)) <= new(0)[0]; | spawn f(len(0)) > new(0)[0]; | spawn f(len(0)) >= new(0)[0]; | spawn f(len(1)) < new(0)[0]; | spawn f(len(0)) < new(1)[0]; | spawn f(len(0)) < new(0)[1]; | -"},
		{"fun main() { 0 + 0 * 0; }", 0, "0 - (0 * 0); | 0 * (0 * 0); | 0 / (0 * 0); | 0 % (0 * 0); | 0 + (0 + 0); | 0 + (0 - 0); | 0 + (0 / 0); | 0 + (0 % 0); | 1 + (0 * 0); | 0 + (1 * 0); | 0 + (0 * 1); | -"},
		// a closure: not what is in it
		{"fun main() { let a = 1; let g = 2; (fn (x) { print x + 7; return a; }).(g, 0); }", 2, "fn (x) { print x + 7; return a; }.(g, 1); | fn (x) { print x + 7; return a; }.(a, 0); | -"},
		{"fun main() { let a = 0; fn (x) { print x; x = a; }; }", 2, "print a; | -"}, {"fun main() { let a = 0; fn (x) { print x; x = a; }; }", 3, "x = x; | -"}, {"fun main() { let a = 0; fn (x) { print x; x = a; }; }", 1, "-"},
		{"fun main() { let a = 0; fn (x) { x; }; let b = 0; print a; }", 4, "print b; | -"},
		{"fun main() { fn (x) { let y = 1; y; }; fn (z) { z; }; }", 4, "-"}, {"fun main() { fn (x) { let y = 1; y; }; fn (z) { z; }; }", 2, "x; | -"},
		// the limits of numbers
		{fmt.Sprintf("fun main() { print %d; }", math.MaxInt64), 0, fmt.Sprintf("print %d; | -", math.MaxInt64-1)}, {fmt.Sprintf("fun main() { print %d; }", math.MaxInt64-1), 0, fmt.Sprintf("print %d; | print %d; | -", math.MaxInt64, math.MaxInt64-2)}, {"fun main() { print 1; }", 0, "print 2; | print 0; | -"},
	} {
		if s := withs(t, templates(t, parsed(t, c.text), c.n), c.n); s != c.want {
			t.Errorf("Templates(%s, %d): %s, want %s", c.text, c.n, s, c.want)
		}
	}
}

// P9.3: donors, worked out by hand.
func TestDonors(t *testing.T) {
	for _, c := range []struct {
		text string
		n    int
		want string
	}{
		{"fun main() { print 1; }", 0, ""},
		{"fun main() { print 1; print 2; throw 3; }", 1, "print 1; | print 1; print 2; | throw 3; | throw 3; print 2;"},
		// neither what is inside nor what is around
		{"fun main() { if 1 { print 2; print 3; } print 4; }", 0, "print 4; | print 4; if 1 { print 2; print 3; }"},
		{"fun main() { if 1 { print 2; print 3; } print 4; }", 1, "print 3; | print 3; print 2; | print 4; | print 4; print 2;"},
		{"fun main() { if 1 { print 2; print 3; } print 4; }", 3, "if 1 { print 2; print 3; } | if 1 { print 2; print 3; } print 4; | print 2; | print 2; print 4; | print 3; | print 3; print 4;"},
		{"fun main() { fn () { print 1; }; print 2; }", 1, "print 2; | print 2; print 1;"},
		{"fun main() { fn () { print 1; }; print 2; }", 0, "print 2; | print 2; fn () { print 1; };"},
		{"fun main() { fn () { print 1; }; fn () { print 2; }; }", 1, "print 2; | print 2; print 1;"}, // no closure inside a closure
		// what declares a name that is there, or reads one that is not, is left out
		{"fun main() { let a = 1; print a; let b = 2; print b; }", 1, ""},
		{"fun main() { let a = 1; print a; let b = 2; print b; }", 3, "print a; | print a; print b;"},
		{"fun main() { let a = 1; print a; let b = 2; b = a; }", 2, "print a; let b = 2;"},
		{"fun main() { let a = 1; print a; let b = 2; b = a; }", 1, ""},
		{"fun main() { let a = 1; let b = 2; print 7; }", 1, "print 7; | print 7; let b = 2;"},
		{"fun main() { let a = 1; let b = 2; print a; }", 2, ""},
		// from one function to another one
		{"fun f(x) { print x; } fun main() { let x = 1; print 3; }", 2, "print x; | print x; print 3;"},
		{"fun f(x) { print x; } fun main() { let x = 1; print 3; }", 0, "print 3; | print 3; print x;"},
		{"fun f(x) { let y = x; print 4; return y; } fun main() { let x = 1; print 3; }", 4, "let y = x; | let y = x; print 3; | print 4; | print 4; print 3;"},
		// the same text may come more than once, and may be the program's own
		{"fun main() { print 1; print 1; print 2; }", 0, "print 1; | print 1; print 1; | print 2; | print 2; print 1;"},
	} {
		if s := withs(t, donors(t, parsed(t, c.text), c.n), c.n); s != c.want {
			t.Errorf("Donors(%s, %d): %s, want %s", c.text, c.n, s, c.want)
		}
	}
}

// P9.3: guards, worked out by hand.
func TestGuards(t *testing.T) {
	p := body(t, "let a = input; let b = 2; if a { let c = 1; } while b { b = 0; } let g = fn (x) { print a + x; };") // 0 let, 1 let, 2 if, 3 let, 4 while, 5 set, 6 let, 7 print
	for _, c := range []struct {
		c    api.Contract
		want string
	}{
		{on(5, "a b", "a < b, b == 2, a != 0, b == 3 * a + -1"), "if a < b { b = 0; } | if b == 2 { b = 0; } | if a != 0 { b = 0; } | if b == ((3 * a) + -1) { b = 0; }"},
		{on(4, "b a", "b <= a, b in -1 2"), "if b <= a { while b { b = 0; } } | if (b == -1) | (b == 2) { while b { b = 0; } }"},
		{on(2, "a", "a >= 1"), "if a >= 1 { if a { let c = 1; } }"},
		{on(1, "a", "a <= -1"), "if a <= -1 { let b = 2; }"}, // what is declared inside is visible behind
		{on(7, "x a", "x % 4 == 1, x != a"), "if (((x % 4) + 4) % 4) == 1 { print a + x; } | if x != a { print a + x; }"},
		{on(6, "b", "b == 1"), "if b == 1 { let g = fn (x) { print a + x; }; }"},
		{on(5, "a b", ""), ""}, {api.Contract{At: 0}, ""}, {api.Contract{At: 5}, ""},
		{on(5, "b", "b == 1, b == 1"), "if b == 1 { b = 0; } | if b == 1 { b = 0; }"},
	} {
		if s := withs(t, guards(t, p, c.c), c.c.At); s != c.want {
			t.Errorf("Guards(%v): %s, want %s", c.c, s, c.want)
		}
	}
}

// P9.3: what would be above a limit is left out.
func TestCandidatesAtLimits(t *testing.T) {
	full := api.Program{Funcs: []api.Func{{Name: "main", Body: append(statements(t, "let a = 1; while a { print 2; }"), broad(api.MaxNodes-6)...)}}} // 0 let, 1 while, 2 print
	if n, _ := lang.Nodes(full); n != api.MaxNodes {
		t.Fatal(n)
	}
	if s := withs(t, templates(t, full, 1), 1); s != "-" {
		t.Error(s)
	}
	if s := withs(t, guards(t, full, on(1, "a", "a == 1, a != 0")), 1); s != "" {
		t.Error(s)
	}
	for _, x := range donors(t, full, 1) {
		if len(x.With) != 1 {
			t.Error(writtenList(t, x.With))
		}
	}
	nested := func(depth int) api.Program {
		l := statements(t, "while 1 { }")
		for range depth - 2 {
			l = []api.Node{{Kind: api.KiIf, Subs: []api.Node{{Kind: api.KiNum}}, Body: l}}
		}
		return api.Program{Funcs: []api.Func{{Name: "main", Body: l}}}
	}
	p := nested(api.MaxDepth)
	if s := withs(t, templates(t, p, api.MaxDepth-2), api.MaxDepth-2); s != "while 2 { } | while 0 { } | -" {
		t.Error(s)
	}
	if l := templates(t, nested(api.MaxDepth-1), api.MaxDepth-3); len(l) != 4 {
		t.Error(l)
	}
	many := "fun main() { let x = 1; "
	for i := range api.MaxNames - 1 {
		many += fmt.Sprintf("let y%d = 0; ", i)
	}
	if l := donors(t, parsed(t, "fun f() { let z = 2; print 3; } "+many+"print 1; }"), 2+api.MaxNames); len(l) != 2 || l[0].With[0].Kind != api.KiPrint { // the print of f, but not the let
		t.Error(len(l))
	}
}

// P9.3: the errors of Templates, Donors and Guards.
func TestCandidateErrors(t *testing.T) {
	p := body(t, "let a = 1; if a { print fn () { print 2; }; }")
	type call struct {
		p    api.Program
		n    int
		want api.Errno
	}
	calls := []call{{p, 0, api.OK}, {p, 3, api.OK}, {p, 4, api.ErrNone}, {p, -1, api.ErrNone}, {p, least, api.ErrNone}, {p, greatest, api.ErrNone}, {body(t, ""), 0, api.ErrNone}}
	for want, q := range brokenPrograms(t) {
		calls = append(calls, call{q, 0, want}, call{q, -1, want}, call{q, 99, want})
	}
	for _, c := range calls {
		if l, e := repair.Templates(c.p, c.n); e != c.want || e != api.OK && len(l) > 0 {
			t.Errorf("Templates(%d): error %d, want %d", c.n, e, c.want)
		}
		if l, e := repair.Donors(c.p, c.n); e != c.want || e != api.OK && len(l) > 0 {
			t.Errorf("Donors(%d): error %d, want %d", c.n, e, c.want)
		}
		for _, contract := range []api.Contract{{At: c.n}, {At: c.n, Names: names("a a")}, {At: c.n, Names: names("z")}, {At: c.n, Claims: make([]api.Invariant, 1)}, {At: c.n, Claims: make([]api.Invariant, api.MaxClaims+1)}, {At: c.n, Names: names("a"), Claims: []api.Invariant{inv(api.ClLow, 0, 0, top+1, 0)}}} {
			want := learn.CheckContract(c.p, contract)
			if l, e := repair.Guards(c.p, contract); e != want || e != api.OK && len(l) > 0 || c.want != api.OK && e != c.want {
				t.Errorf("Guards(%v): error %d, want %d", contract, e, want)
			}
		}
	}
}

// way is where an own expression is: an index of Subs after the other.
type way []int

// ways returns the ways to all own expressions of a statement, a node ahead of its Subs.
func ways(n api.Node) []way {
	var l []way
	for i, x := range n.Subs {
		l = append(l, way{i})
		for _, w := range ways(x) {
			l = append(l, append(way{i}, w...))
		}
	}
	return l
}

// changed returns a copy of a statement in which an expression is changed.
func changed(n api.Node, w way, change func(*api.Node)) api.Node {
	n.Subs = slices.Clone(n.Subs)
	if len(w) == 1 {
		change(&n.Subs[w[0]])
	} else {
		n.Subs[w[0]] = changed(n.Subs[w[0]], w[1:], change)
	}
	return n
}

// modelTemplates tries all changes that there are.
func modelTemplates(p api.Program, n int) (l []api.Edit) {
	s, _ := lang.At(p, n)
	put := func(with ...api.Node) { l = append(l, api.Edit{At: n, With: with}) }
	visible, _ := lang.Names(p, n)
	for _, pass := range []api.Kind{api.KiBinary, api.KiNum, api.KiName} {
		for _, w := range ways(s) {
			changed(s, w, func(x *api.Node) {
				if x.Kind != pass {
					return
				}
				switch x.Kind {
				case api.KiBinary:
					for _, class := range []string{"+ - * / %", "== != < <= > >=", "& |"} {
						for _, o := range strings.Fields(class) {
							if slices.Contains(strings.Fields(class), x.Text) && o != x.Text {
								put(changed(s, w, func(x *api.Node) { x.Text = o }))
							}
						}
					}
				case api.KiNum:
					if x.Num < math.MaxInt64 {
						put(changed(s, w, func(x *api.Node) { x.Num++ }))
					}
					if x.Num > 0 {
						put(changed(s, w, func(x *api.Node) { x.Num-- }))
					}
				case api.KiName:
					for _, name := range visible {
						if name != x.Text {
							put(changed(s, w, func(x *api.Node) { x.Text = name }))
						}
					}
				}
			})
		}
	}
	if s.Kind == api.KiIf || s.Kind == api.KiWhile || s.Kind == api.KiAssert {
		put(changed(s, way{0}, func(x *api.Node) { *x = api.Node{Kind: api.KiUnary, Text: "!", Subs: []api.Node{*x}} }))
	}
	put()
	return accepted(p, l)
}

// accepted returns those edits that make a correct program.
func accepted(p api.Program, l []api.Edit) []api.Edit {
	return slices.DeleteFunc(l, func(x api.Edit) bool {
		q, e := lang.Replace(p, x.At, x.With)
		return e != api.OK || lang.Check(q) != api.OK
	})
}

// modelDonors puts every other statement everywhere.
func modelDonors(p api.Program, n int) (l []api.Edit) {
	own, _ := lang.At(p, n)
	spot, _ := lang.Where(p, n)
	for m := range lang.Count(p) {
		donor, _ := lang.At(p, m)
		other, _ := lang.Where(p, m)
		if m == n || n < m && m < n+spot.Size || m < n && n < m+other.Size {
			continue
		}
		l = append(l, api.Edit{At: n, With: []api.Node{donor}}, api.Edit{At: n, With: []api.Node{donor, own}})
	}
	return accepted(p, l)
}

// modelGuards writes the guards as texts.
func modelGuards(t *testing.T, p api.Program, c api.Contract) (l []api.Edit) {
	t.Helper()
	own, _ := lang.At(p, c.At)
	for _, x := range c.Claims {
		l = append(l, api.Edit{At: c.At, With: []api.Node{{Kind: api.KiIf, Subs: []api.Node{conditionOf(t, x, c.Names)}, Body: []api.Node{own}}}})
	}
	return accepted(p, l)
}

// P9.3: the candidates of all statements of random programs.
func TestRandomCandidates(t *testing.T) {
	made := map[string]int{}
	programs(t, 60, 10, true, func(m *maker, p api.Program) {
		for n := range lang.Count(p) {
			own, _ := lang.At(p, n)
			if l, want := templates(t, p, n), modelTemplates(p, n); !sameEdits(l, want) {
				t.Fatalf("Templates(%s, %d): %s, want %s", written(t, p), n, writtenEdits(t, l), writtenEdits(t, want))
			} else if len(l) > 0 {
				made[fmt.Sprint("templates of kind ", own.Kind)]++
			}
			if l, want := donors(t, p, n), modelDonors(p, n); !sameEdits(l, want) {
				t.Fatalf("Donors(%s, %d): %s, want %s", written(t, p), n, writtenEdits(t, l), writtenEdits(t, want))
			} else if len(l) > 0 {
				made[fmt.Sprint("donors for kind ", own.Kind)]++
			}
			c, e := learn.Learn(p, n, []api.Given{m.given(), m.given()}, fuel, 1)
			if e != api.OK {
				t.Fatal(e)
			}
			if l, want := guards(t, p, c), modelGuards(t, p, c); !sameEdits(l, want) {
				t.Fatalf("Guards(%s, %v): %s, want %s", written(t, p), c, writtenEdits(t, l), writtenEdits(t, want))
			} else if len(l) > 0 {
				made["guards"]++
			}
		}
	})
	for _, k := range []api.Kind{api.KiLet, api.KiSet, api.KiStore, api.KiIf, api.KiWhile, api.KiReturn, api.KiThrow, api.KiTry, api.KiPrint, api.KiAssert, api.KiDo} {
		if made[fmt.Sprint("templates of kind ", k)] < 5 || made[fmt.Sprint("donors for kind ", k)] < 3 {
			t.Error("too few cases of kind", k, made)
		}
	}
	if made["guards"] < 50 {
		t.Error("too few cases:", made)
	}
}

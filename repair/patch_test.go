package repair_test

import (
	"slices"
	"strings"
	"testing"

	"sleuth/api"
	"sleuth/lang"
	"sleuth/repair"
)

// P9.1: what patches make of programs, and where the statements are then, worked out by hand.
func TestApply(t *testing.T) {
	nested := "let a = 1; if a { a = 2; print 3; } else { print 4; } while a { a = 0; } print a;" // 0 let, 1 if, 2 set, 3 print, 4 print, 5 while, 6 set, 7 print
	closed := "let a = 1; let g = fn (b) { let c = a + b; return c; }; print g.(a);"              // 0 let, 1 let, 2 let, 3 return, 4 print
	tried := "try { throw 1; } catch e { print e; } lock new(0);"                                 // 0 try, 1 throw, 2 print, 3 lock
	for _, c := range []struct {
		body, patch, want, moved string
	}{
		{"", "", "", ""},
		{"print 1;", "", "print 1;", "0"},
		{"print 1;", "0:", "", "-1"},
		{"print 1;", "0: print 1;", "print 1;", "-1"},
		{"print 1; print 2;", "0: print 5; print 6; | 1: print 7;", "print 5; print 6; print 7;", "-1 -1"},
		{"print 1; print 2;", "0: | 1: if 1 { print 3; }", "if 1 { print 3; }", "-1 -1"},
		{nested, "", nested, "0 1 2 3 4 5 6 7"},
		{nested, "1:", "let a = 1; while a { a = 0; } print a;", "0 -1 -1 -1 -1 1 2 3"},
		{nested, "2:", "let a = 1; if a { print 3; } else { print 4; } while a { a = 0; } print a;", "0 1 -1 2 3 4 5 6"},
		{nested, "2: | 3: | 4:", "let a = 1; if a { } while a { a = 0; } print a;", "0 1 -1 -1 -1 2 3 4"},
		{nested, "4: print 8; print 9; | 6:", "let a = 1; if a { a = 2; print 3; } else { print 8; print 9; } while a { } print a;", "0 1 2 3 -1 6 -1 7"},
		{nested, "1: print a; | 5: if a { while a { } } | 7:", "let a = 1; print a; if a { while a { } }", "0 -1 -1 -1 -1 -1 -1 -1"},
		{nested, "0: let a = 5; let b = a; | 7: print b;", "let a = 5; let b = a; if a { a = 2; print 3; } else { print 4; } while a { a = 0; } print b;", "-1 2 3 4 5 6 7 -1"},
		{closed, "2: let d = b; let c = d;", "let a = 1; let g = fn (b) { let d = b; let c = d; return c; }; print g.(a);", "0 1 -1 4 5"},
		{closed, "3:", "let a = 1; let g = fn (b) { let c = a + b; }; print g.(a);", "0 1 2 -1 3"},
		{closed, "0: let a = fn () { print 1; print 2; }; | 3: return 7;", "let a = fn () { print 1; print 2; }; let g = fn (b) { let c = a + b; return 7; }; print g.(a);", "-1 3 4 -1 6"},
		{closed, "1: let g = a;", "let a = 1; let g = a; print g.(a);", "0 -1 -1 -1 2"},
		{tried, "1: let f = 1; throw f; | 2:", "try { let f = 1; throw f; } catch e { } lock new(0);", "0 -1 -1 3"},
		{tried, "0: | 3: print 1;", "print 1;", "-1 -1 -1 -1"},
	} {
		p := body(t, c.body)
		x := api.Patch{}
		if c.patch != "" {
			x = patch(t, strings.Split(c.patch, "|")...)
		}
		if e := repair.CheckPatch(p, x); e != api.OK {
			t.Errorf("CheckPatch(%s; %s): error %d", c.body, c.patch, e)
		}
		if q := applied(t, p, x); !lang.Same(q, body(t, c.want)) {
			t.Errorf("Apply(%s; %s): %s, want %s", c.body, c.patch, written(t, q), c.want)
		}
		if l, e := repair.Moved(p, x); e != api.OK || !slices.Equal(l, numbers(c.moved)) {
			t.Errorf("Moved(%s; %s): %v, error %d, want %s", c.body, c.patch, l, e, c.moved)
		}
	}
}

// P9.1: patches of several functions.
func TestApplyFunctions(t *testing.T) {
	p := parsed(t, "fun f(a) { print a; return 1; } fun g() { } fun main() { f(2); g(); }") // 0 print, 1 return, 2 do, 3 do
	x := patch(t, "0:", "1: return 2; print a;", "2: print f(3);")
	if s := written(t, applied(t, p, x)); s != "fun f(a) { return 2; print a; } fun g() { } fun main() { print f(3); g(); }" {
		t.Error(s)
	}
	if l, e := repair.Moved(p, x); e != api.OK || !slices.Equal(l, []int{-1, -1, -1, 3}) {
		t.Error(l, e)
	}
}

// broad returns a program with so many nodes and statements print 0, two nodes each, and one more of one node less if the number is odd.
func broad(nodes int) []api.Node {
	l := slices.Repeat([]api.Node{{Kind: api.KiPrint, Subs: []api.Node{{Kind: api.KiNum}}}}, nodes/2)
	if nodes%2 > 0 {
		l = append(l, api.Node{Kind: api.KiTry, Text: "x"})
	}
	return l
}

// deep returns statements that are so deep.
func deep(depth int) []api.Node {
	l := []api.Node{{Kind: api.KiTry, Text: "z"}}
	for range depth - 1 {
		l = []api.Node{{Kind: api.KiIf, Subs: []api.Node{{Kind: api.KiNum}}, Body: l}}
	}
	return l
}

// P9.1: the errors of patches, and which one is told first. All functions that take one patch tell them.
func TestPatchErrors(t *testing.T) {
	p := body(t, "let a = 1; if a { a = 2; print fn () { print a; return a; }; } print a; print a; print a; print a; print a; print a; print a; print a;") // 0 let, 1 if, 2 set, 3 print, 4 and 5 inside, 6 to 13 print
	wrong := []api.Node{{Kind: 99}}
	nine := patch(t, "6:", "7:", "8:", "9:", "10:", "11:", "12:", "13:", "14:")
	cyclic := []api.Node{{Kind: api.KiTry, Text: "y"}}
	cyclic[0].Body = cyclic
	type call struct {
		p    api.Program
		x    api.Patch
		want api.Errno
	}
	calls := []call{
		{p, api.Patch{}, api.OK}, {p, api.Patch{Edits: []api.Edit{}}, api.OK}, {p, patchOf(nine.Edits[:8]...), api.OK}, {p, patchOf(api.Edit{At: 13, With: []api.Node{}}), api.OK},
		{p, nine, api.ErrLimit}, {p, patchOf(slices.Repeat([]api.Edit{{At: -1}}, 9)...), api.ErrLimit},
		{p, patch(t, "14:"), api.ErrArg}, {p, patch(t, "-1:"), api.ErrArg}, {p, patchOf(api.Edit{At: least}), api.ErrArg}, {p, patchOf(api.Edit{At: greatest}), api.ErrArg},
		{p, patch(t, "7:", "6:"), api.ErrArg}, {p, patch(t, "6:", "6:"), api.ErrArg}, {p, patch(t, "1:", "2:", "14:"), api.ErrArg}, {p, patch(t, "0:", "1:", "2:", "1:"), api.ErrArg}, {body(t, ""), patch(t, "0:"), api.ErrArg},
		{p, patch(t, "1:", "2:"), api.ErrClash}, {p, patch(t, "1:", "5:"), api.ErrClash}, {p, patch(t, "3:", "4:"), api.ErrClash}, {p, patch(t, "0:", "1:", "3:"), api.ErrClash}, {p, patch(t, "2:", "3:", "5:", "6:"), api.ErrClash}, {p, patch(t, "1:", "6:"), api.OK}, {p, patch(t, "4:", "5:"), api.OK}, {p, patch(t, "2:", "4:", "5:", "6:"), api.OK},
		{p, api.Patch{Edits: []api.Edit{{At: 1, With: wrong}, {At: 4}}}, api.ErrClash}, {p, api.Patch{Edits: []api.Edit{{At: 1, With: wrong}, {At: 1}}}, api.ErrArg},
		{p, patch(t, "0:"), api.ErrName}, {p, patch(t, "0: print a; let a = 1;"), api.ErrName}, {p, patch(t, "6: let a = 3;"), api.ErrTwice}, {p, patch(t, "6: f();"), api.ErrName}, {p, patch(t, "6: main(1);"), api.ErrArg}, {p, patch(t, "4: print fn () { };"), api.ErrArg},
		{p, patchOf(api.Edit{At: 6, With: wrong}), api.ErrArg}, {p, patchOf(api.Edit{At: 6, With: []api.Node{{Kind: api.KiNum}}}), api.ErrArg}, {p, api.Patch{Edits: []api.Edit{{At: 0}, {At: 6, With: wrong}}}, api.ErrArg},
		{p, patchOf(api.Edit{At: 6, With: cyclic}), api.ErrLimit}, {p, api.Patch{Edits: []api.Edit{{At: 0, With: wrong}, {At: 6, With: cyclic}}}, api.ErrLimit},
		// the limits of the patched program, and of no other one
		{body(t, "print 1;"), patchOf(api.Edit{At: 0, With: broad(api.MaxNodes)}), api.OK}, {body(t, "print 1;"), patchOf(api.Edit{At: 0, With: broad(api.MaxNodes + 1)}), api.ErrLimit}, {body(t, "print 1; print 2;"), patchOf(api.Edit{At: 0, With: broad(api.MaxNodes - 2)}), api.OK}, {body(t, "print 1; print 2;"), patchOf(api.Edit{At: 0, With: broad(api.MaxNodes - 1)}), api.ErrLimit},
		{body(t, "print 1; print 2;"), api.Patch{Edits: []api.Edit{{At: 0, With: broad(600)}, {At: 1, With: broad(424)}}}, api.OK}, {body(t, "print 1; print 2;"), api.Patch{Edits: []api.Edit{{At: 0, With: broad(600)}, {At: 1, With: broad(425)}}}, api.ErrLimit},
		{api.Program{Funcs: []api.Func{{Name: "main", Body: broad(api.MaxNodes)}}}, api.Patch{Edits: []api.Edit{{At: 0, With: broad(4)}, {At: 511}}}, api.OK}, {api.Program{Funcs: []api.Func{{Name: "main", Body: broad(api.MaxNodes)}}}, api.Patch{Edits: []api.Edit{{At: 0}, {At: 511, With: broad(4)}}}, api.OK}, {api.Program{Funcs: []api.Func{{Name: "main", Body: broad(api.MaxNodes)}}}, api.Patch{Edits: []api.Edit{{At: 0}, {At: 511, With: broad(5)}}}, api.ErrLimit},
		{body(t, "print 1;"), patchOf(api.Edit{At: 0, With: deep(api.MaxDepth)}), api.OK}, {body(t, "print 1;"), patchOf(api.Edit{At: 0, With: deep(api.MaxDepth + 1)}), api.ErrLimit}, {body(t, "print 1;"), patchOf(api.Edit{At: 0, With: deep(1 << 16)}), api.ErrLimit}, {body(t, "if 1 { print 1; }"), patchOf(api.Edit{At: 1, With: deep(api.MaxDepth - 1)}), api.OK}, {body(t, "if 1 { print 1; }"), patchOf(api.Edit{At: 1, With: deep(api.MaxDepth)}), api.ErrLimit},
		{body(t, "print 1;"), patchOf(api.Edit{At: 0, With: make([]api.Node, 1<<20)}), api.ErrLimit},
	}
	for want, q := range brokenPrograms(t) {
		calls = append(calls, call{q, nine, want}, call{q, api.Patch{}, want}, call{q, patch(t, "0:"), want}, call{q, patch(t, "-1:"), want})
	}
	for i, c := range calls {
		if e := repair.CheckPatch(c.p, c.x); e != c.want {
			t.Errorf("CheckPatch, case %d: error %d, want %d", i, e, c.want)
		}
		if q, e := repair.Apply(c.p, c.x); e != c.want || e != api.OK && len(q.Funcs) > 0 {
			t.Errorf("Apply, case %d: error %d, want %d", i, e, c.want)
		}
		if l, e := repair.Moved(c.p, c.x); e != c.want || e != api.OK && len(l) > 0 {
			t.Errorf("Moved, case %d: error %d, want %d", i, e, c.want)
		}
		if j, e := repair.Judge(c.p, c.x, api.Suite{}); e != c.want || e != api.OK && !sameJudgement(j, api.Judgement{}) {
			t.Errorf("Judge, case %d: error %d, want %d", i, e, c.want)
		}
		if l, e := repair.Effects(c.p, c.x, api.Suite{}); e != c.want || e != api.OK && len(l) > 0 {
			t.Errorf("Effects, case %d: error %d, want %d", i, e, c.want)
		}
		if x, e := repair.Minimize(c.p, c.x, api.Suite{}); e != c.want || e != api.OK && len(x.Edits) > 0 {
			t.Errorf("Minimize, case %d: error %d, want %d", i, e, c.want)
		}
	}
}

// P9.1: merged and moved patches, worked out by hand.
func TestMerge(t *testing.T) {
	p := body(t, "let a = 1; if a { a = 2; print 3; } print a; print a;") // 0 let, 1 if, 2 set, 3 print, 4 print, 5 print
	for _, c := range []struct {
		x, y, all, moved string
	}{
		{"", "", "", ""},
		{"4:", "", "4:", ""},
		{"", "4:", "4:", "4:"},
		{"4: print 1;", "4: print 1;", "4: print 1;", ""},
		{"4:", "5:", "4: | 5:", "4:"},
		{"5:", "4:", "4: | 5:", "4:"},
		{"0: let a = 1; let b = 2; | 4:", "2: | 3: print a; | 4: | 5: a;", "0: let a = 1; let b = 2; | 2: | 3: print a; | 4: | 5: a;", "3: | 4: print a; | 5: a;"},
		{"1: print 7;", "0: let a = 3; | 5:", "0: let a = 3; | 1: print 7; | 5:", "0: let a = 3; | 3:"},
		{"0: let a = 3; | 5:", "1: print 7;", "0: let a = 3; | 1: print 7; | 5:", "1: print 7;"},
		{"2: print 1; print 2; | 3: | 5:", "4: if a { }", "2: print 1; print 2; | 3: | 4: if a { } | 5:", "4: if a { }"},
		{"0: let a = fn () { print 1; };", "3: print fn () { print 2; }; | 4:", "0: let a = fn () { print 1; }; | 3: print fn () { print 2; }; | 4:", "4: print fn () { print 2; }; | 5:"},
		{"1:", "1: | 4: | 5:", "1: | 4: | 5:", "1: | 2:"},
	} {
		of := func(text string) api.Patch {
			if text == "" {
				return api.Patch{}
			}
			return patch(t, strings.Split(text, "|")...)
		}
		if m, e := repair.Merge(p, of(c.x), of(c.y)); e != api.OK || !samePatch(m, of(c.all)) {
			t.Errorf("Merge(%s; %s): %s, error %d, want %s", c.x, c.y, writtenPatch(t, m), e, c.all)
		}
		if m, e := repair.Merge(p, of(c.y), of(c.x)); e != api.OK || !samePatch(m, of(c.all)) {
			t.Errorf("Merge(%s; %s): %s, error %d, want %s", c.y, c.x, writtenPatch(t, m), e, c.all)
		}
		if m, e := repair.Move(p, of(c.x), of(c.y)); e != api.OK || !samePatch(m, of(c.moved)) {
			t.Errorf("Move(%s; %s): %s, error %d, want %s", c.x, c.y, writtenPatch(t, m), e, c.moved)
		}
	}
}

// P9.1: the errors of Merge, which are those of Move, too, and which one is told first.
func TestMergeErrors(t *testing.T) {
	p := body(t, "let a = 1; let b = 1; if a { print a; if b { print b; } } print 1; print 2; print 3; print 4; print 5; print 6;") // 0 let, 1 let, 2 if, 3 print, 4 if, 5 print, 6 to 11 print
	six := patch(t, "6:", "7:", "8:", "9:", "10:", "11:")
	type call struct {
		x, y api.Patch
		want api.Errno
	}
	calls := []call{
		{patch(t, "12:"), patch(t, "0:"), api.ErrArg}, {patch(t, "0:"), patch(t, "12:"), api.ErrName}, {patch(t, "6:"), patch(t, "12:"), api.ErrArg}, {patch(t, "6:"), patch(t, "2:", "4:"), api.ErrClash}, {patch(t, "6:"), patch(t, "7: let a = 1;"), api.ErrTwice}, {patch(t, "6: print 2;"), patch(t, "6: print 1;", "12:"), api.ErrArg},
		{patch(t, "6:"), patch(t, "6: print 1;"), api.ErrClash}, {patch(t, "6: print 1;"), patch(t, "6: print 1; print 1;"), api.ErrClash}, {patch(t, "2:"), patch(t, "3:"), api.ErrClash}, {patch(t, "3:"), patch(t, "2:"), api.ErrClash}, {patch(t, "5:"), patch(t, "2:"), api.ErrClash}, {patch(t, "4:"), patch(t, "5:"), api.ErrClash}, {patch(t, "2:"), patch(t, "6:"), api.OK}, {patch(t, "3:"), patch(t, "5:"), api.OK},
		{patch(t, "6: print fn () { print 1; };"), patch(t, "6: print fn () { print 2; };"), api.ErrClash}, {patch(t, "6: print fn () { print 1; };"), patch(t, "6: print fn () { print 1; };"), api.OK},
		{six, patch(t, "2:"), api.OK}, {six, patch(t, "3:", "4:"), api.OK}, {six, patch(t, "0: let a = 3;", "3:", "4:"), api.ErrLimit}, {six, patch(t, "0: let a = 3;", "3:", "6:"), api.OK}, {six, patch(t, "0: let a = 3;", "1: let b = 4;", "2:", "6: print 1;"), api.ErrClash}, {patch(t, "0: let a = 3;", "1: let b = 4;", "2:"), six, api.ErrLimit},
		{patch(t, "3:", "6:", "7:", "8:", "9:", "10:"), patch(t, "0: let a = 3;", "1: let b = 4;", "2:"), api.ErrClash}, {patch(t, "0: let a = 3;", "1: let b = 4;", "2:"), patch(t, "5:", "6:", "7:", "8:", "9:", "10:"), api.ErrClash},
		// each is right by itself
		{patch(t, "6: let c = 1;"), patch(t, "7: let c = 1;"), api.ErrTwice}, {patch(t, "7: let c = 1;"), patch(t, "6: let c = 1;"), api.ErrTwice}, {patchOf(api.Edit{At: 6, With: broad(600)}), patchOf(api.Edit{At: 7, With: broad(600)}), api.ErrLimit}, {six, api.Patch{Edits: []api.Edit{{At: 0, With: statements(t, "let a = 1; let c = 1;")}, {At: 1, With: statements(t, "let b = 1; let d = 1;")}, {At: 2, With: statements(t, "print c;")}}}, api.ErrLimit},
	}
	for i, c := range calls {
		if m, e := repair.Merge(p, c.x, c.y); e != c.want || e != api.OK && len(m.Edits) > 0 {
			t.Errorf("Merge, case %d: error %d, want %d", i, e, c.want)
		}
		if m, e := repair.Move(p, c.x, c.y); e != c.want || e != api.OK && len(m.Edits) > 0 {
			t.Errorf("Move, case %d: error %d, want %d", i, e, c.want)
		}
	}
	for want, q := range brokenPrograms(t) {
		if m, e := repair.Merge(q, patch(t, "1:", "0:"), patch(t, "-1:")); e != want || len(m.Edits) > 0 {
			t.Errorf("Merge: error %d, want %d", e, want)
		}
		if m, e := repair.Move(q, patch(t, "1:", "0:"), patch(t, "-1:")); e != want || len(m.Edits) > 0 {
			t.Errorf("Move: error %d, want %d", e, want)
		}
	}
	// a program whose edits are right only together has no such patches
	if e := repair.CheckPatch(body(t, "let a = 1; print a;"), patch(t, "0:", "1:")); e != api.OK {
		t.Error(e)
	}
	if _, e := repair.Merge(body(t, "let a = 1; print a;"), patch(t, "0:"), patch(t, "1:")); e != api.ErrName {
		t.Error(e)
	}
	// and two that are right apart may not be so together
	if _, e := repair.Merge(body(t, "if 1 { let a = 1; } if 0 { } "), patch(t, "0:"), patch(t, "2: print a;")); e != api.ErrName {
		t.Error(e)
	}
}

package slice_test

import (
	"fmt"
	"slices"
	"strings"
	"testing"

	"sleuth/api"
	"sleuth/lang"
	"sleuth/slice"
)

// waysOf returns where all statements of a program lead, as a text: for each the statements to which it leads, and behind a stroke those to which it leads by a throw.
func waysOf(t *testing.T, p api.Program) string {
	t.Helper()
	var l []string
	for n := range lang.Count(p) {
		ordinary, thrown, e := slice.Leads(p, n)
		if e != api.OK {
			t.Fatalf("Leads(%d): error %d", n, e)
		}
		s := strings.Trim(fmt.Sprint(ordinary), "[]")
		if len(thrown) > 0 {
			s += "/" + strings.Trim(fmt.Sprint(thrown), "[]")
		}
		l = append(l, s)
	}
	return strings.Join(l, ", ")
}

// P5.3: where statements lead.
func TestLeads(t *testing.T) {
	f := "fun f() { throw 1; } "
	for text, want := range map[string]string{
		main("let a = 1; print a;"):                                                     "1, -1",
		main("let o = new(1); o[0] = 1; o = 2; assert o; o;"):                           "1, 2, 3, 4, -1",
		main("if 1 { } else { }"):                                                       "-1",
		main("if 1 { } else { } print 1;"):                                              "1, -1",
		main("if 1 { print 1; }"):                                                       "-1 1, -1",
		main("if 1 { } else { print 1; } print 2;"):                                     "1 2, 2, -1",
		main("if 1 { print 1; print 2; } else { print 3; } print 4;"):                   "1 3, 2, 4, 4, -1",
		main("if 1 { if 2 { } else { print 3; } } else { print 4; }"):                   "1 3, -1 2, -1, -1",
		main("while 1 { }"):                                                             "-1 0",
		main("while 1 { print 1; if 2 { } } print 3;"):                                  "1 3, 2, 0, -1",
		main("while 1 { while 2 { print 3; } }"):                                        "-1 1, 0 2, 1",
		main("while 1 { while 2 { } }"):                                                 "-1 1, 0 1",
		main("while 1 { if 2 { print 3; } else { return 4; } } print 5;"):               "1 4, 2 3, 0, -1, -1",
		main("try { } catch e { print 1; } print 2;"):                                   "2, 2, -1",
		main("try { } catch e { }"):                                                     "-1",
		main("while 1 { try { } catch e { } }"):                                         "-1 1, 0",
		main("try { throw 1; } catch e { } print 2;"):                                   "1, /2, -1",
		main("while 1 { try { throw 1; } catch e { } }"):                                "-1 1, 2, /0",
		main("try { print 1; throw 2; print 3; } catch e { print 4; }"):                 "1, 2, /4, -1, -1",
		main("try { try { throw 1; } catch a { throw 2; } } catch b { throw 3; }"):      "1, 2, /3, /4, /-1",
		main("try { if 1 { while 1 { throw 1; } } } catch e { print 2; }"):              "1, -1 2, -1 3, /4, -1",
		main("try { try { } catch a { print 1; throw 2; } } catch b { }"):               "1, -1, 3, /-1",
		main("try { try { print 1; } catch a { } throw 2; } catch b { print 3; }"):      "1, 2, 3, /4, -1",
		main("return 1; print 2;"):                                                      "-1, -1",
		main("throw 1; print 2;"):                                                       "/-1, -1",
		f + main("try { return f(); } catch e { print e; } if f() { } while f() { }"):   "/-1, 2, -1/3, 4, 5/-1, -1 5/-1",
		f + main("try { while f() { throw f(); } } catch e { }"):                        "/-1, 2, -1 3/-1, /-1",
		f + main("let a = f(); a = f(); try { new(f())[1] = f(); } catch e { f(); }"):   "/-1, 2/-1, 3/-1, 4, -1/5, -1/-1",
		main("try { let g = fn () { throw 1; }; g.(); } catch e { }"):                   "1, 3, /-1, -1/-1",
		main("try { let g = fn () { throw 1; }; g.(); } catch e { print 2; } print 3;"): "1, 3, /-1, 5/4, 5, -1",
		main("let g = fn (a) { while a { print a; } }; print 2;"):                       "3, -1 2, 1, -1",
		main("let g = fn () { try { throw 1; } catch a { throw 2; } };"):                "-1, 2, /3, /-1",
		main("while fn () { print 1; return 2; }.() { print 3; }"):                      "-1 3, 2, -1, 0",
	} {
		if got := waysOf(t, parsed(t, text)); got != want {
			t.Errorf("%s leads\n%s, want\n%s", text, got, want)
		}
	}
}

// reaching is which statements a definition of a name must come from, by the statement that is asked.
type reaching struct {
	text string
	name string
	want map[int]string
}

// P5.3: which definitions reach a statement.
func TestReaching(t *testing.T) {
	f := "fun f() { throw 1; } "
	for _, c := range []reaching{
		{main("let x = 1; x = 2; print x; x = 3;"), "x", map[int]string{0: "", 1: "0", 2: "1", 3: "1"}},
		{main("let x = 1; while x { print x; x = x - 1; } print x;"), "x", map[int]string{0: "", 1: "0 3", 2: "0 3", 3: "0 3", 4: "0 3"}},
		{main("let x = 1; if x { x = 2; } print x;"), "x", map[int]string{1: "0", 2: "0", 3: "0 2"}},
		{main("let x = 1; if x { x = 2; } else { x = 3; } print x;"), "x", map[int]string{2: "0", 3: "0", 4: "2 3"}},
		{main("let x = 1; if x { x = 2; return 0; } print x;"), "x", map[int]string{3: "2", 4: "0"}},
		{main("return 1; let x = 2; print x;"), "x", map[int]string{2: "1"}},
		{main("while 1 { while 2 { let x = 3; } print x; }"), "x", map[int]string{0: "2", 1: "2", 2: "2", 3: "2"}},
		{main("while 1 { let x = 2; let y = x; x = 3; }"), "x", map[int]string{0: "3", 1: "3", 2: "1", 3: "1"}},
		// A name that a KiTry sets has no definition there; and what a KiTry sets does not end what reaches.
		{main("try { throw 1; } catch y { } print y;"), "y", map[int]string{2: ""}},
		{main("try { throw 1; } catch y { y = 2; } print y;"), "y", map[int]string{3: "2"}},
		{main("while input { try { throw 1; } catch y { print y; } y = 5; }"), "y", map[int]string{1: "4", 2: "4", 3: "4", 4: "4"}},
		// A definition that is left by a throw has not defined anything, and lets others pass.
		{f + main("let x = 1; try { x = f(); x = 3; } catch e { print x; } print x;"), "x", map[int]string{3: "1", 4: "3", 5: "1", 6: "1 4"}},
		{f + main("try { let x = f(); } catch e { } print x;"), "x", map[int]string{3: "2"}},
		{f + main("try { let x = f(); throw 2; } catch e { print x; } print 3;"), "x", map[int]string{4: "2", 5: "2"}},
		{f + main("let x = 1; while x { try { x = f(); } catch e { } }"), "x", map[int]string{2: "1 4", 3: "1 4", 4: "1 4"}},
		{f + main("let x = f(); throw x; print x;"), "x", map[int]string{2: "1", 3: ""}},
		// A closure has its own definitions.
		{main("let x = 1; let g = fn () { print x; x = 2; print x; }; x = 3; print x;"), "x", map[int]string{1: "0", 2: "", 3: "", 4: "3", 5: "0", 6: "5"}},
		{"fun f() { let x = 1; print x; } fun main() { let x = 2; print x; }", "x", map[int]string{1: "0", 3: "2"}},
		{"fun f(x) { print x; x = 1; print x; } fun main() { }", "x", map[int]string{0: "", 2: "1"}},
		{main("let x = 1; let y = 2; print x + y;"), "y", map[int]string{0: "", 1: "", 2: "1"}},
		{main("let x = 1; print x;"), "z", map[int]string{0: "", 1: ""}},
		{main("let x = 1; print x; 1;"), "", map[int]string{0: "", 1: "", 2: ""}},
		{main("let x = 1; print x;"), "let\xff", map[int]string{1: ""}},
	} {
		p := parsed(t, c.text)
		for n, want := range c.want {
			l, e := slice.Reaching(p, n, c.name)
			if e != api.OK || !slices.Equal(l, numbers(want)) {
				t.Errorf("Reaching(%s, %d, %q): error %d, %v, want %s", c.text, n, c.name, e, l, want)
			}
		}
	}
}

// P5.3: of a statement that is not there nothing is told.
func TestNoStatement(t *testing.T) {
	for text, count := range map[string]int{main(""): 0, main("print 1;"): 1, main("let g = fn () { print 1; }; print 2;"): 3} {
		p := parsed(t, text)
		for _, n := range []int{-1, count, count + 1, -1 << 63, 1<<63 - 1} {
			if a, b, e := slice.Leads(p, n); e != api.ErrArg || len(a)+len(b) > 0 {
				t.Errorf("Leads(%s, %d): error %d, %v, %v", text, n, e, a, b)
			}
			if l, e := slice.Reaching(p, n, "g"); e != api.ErrArg || len(l) > 0 {
				t.Errorf("Reaching(%s, %d): error %d, %v", text, n, e, l)
			}
		}
	}
}

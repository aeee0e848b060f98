package slice

import (
	"fmt"
	"strings"
	"testing"

	"sleuth/api"
	"sleuth/lang"
)

// known returns what there is to know of the program with a text.
func known(t *testing.T, text string) *program {
	t.Helper()
	p, at, e := lang.Parse(text)
	if e != api.OK {
		t.Fatalf("Parse(%q): error %d at %d", text, e, at)
	}
	x, e := read(p)
	if e != api.OK {
		t.Fatalf("read(%q): error %d", text, e)
	}
	return x
}

// put returns what a rule puts into a slice that has a statement, as a text.
func (x *program) put(r rule, n int) string {
	var l []int
	for i, s := range x.statements {
		if i != n && r.puts(x.statements[n], s) {
			l = append(l, i)
		}
	}
	return strings.Trim(fmt.Sprint(l), "[]")
}

const (
	control = "fun main() { if 1 { while 1 { print 2; } } else { print fn () { return 3; }.(); } }"
	setting = "fun main() { let x = 1; x = 2; print x; x = 3; }"
	caught  = "fun main() { try { throw 1; } catch x { } x = 2; x = 3; print x; }"
	held    = "fun main() { let x = 1; let g = fn () { x = 2; return x; }; print x; }"
	params  = "fun f(a) { a = a + 1; print a; } fun main() { let a = 1; print a; }"
	inner   = "fun main() { let x = 1; let g = fn (a) { let b = x; b = a; x = a; print b; }; try { } catch y { } y = 1; }"
	outside = "fun main() { let o = new(1); o[0] = input; o[1] = clock; print o[0]; print input; print clock; print len(o); }"
	far     = "fun f(o) { o[0] = 1; } fun main() { let g = fn (o) { o[0] = 2; }; print fn () { return new(1)[0]; }.(); }"
	leaving = "fun f() { if 1 { return 1; } throw 2; } fun h() { f(); return 3; } fun main() { print f(); print h(); fn () { return 4; }; 5; }"
	applied = "fun f() { return 0; } fun main() { let g = fn () { return 1; }; let h = fn () { throw 2; print 3; }; print g.(); print f(); }"
	called  = "fun f() { print 1; } fun main() { f(); let g = fn () { print f(); }; g.(); if f() { main(); } }"
)

// P5.4: what each of the seven rules puts into a slice for one statement.
func TestRules(t *testing.T) {
	for _, c := range []struct {
		number int
		kind   Kind
		text   string
		want   map[int]string
	}{
		{1, Coarse, control, map[int]string{0: "", 1: "0", 2: "1", 3: "0", 4: "3"}},
		{2, Coarse, setting, map[int]string{0: "", 1: "", 2: "0 1 3", 3: ""}},
		{2, Fine, setting, map[int]string{0: "", 1: "", 2: "1", 3: ""}},
		{2, Coarse, caught, map[int]string{4: "0 2 3"}},
		{2, Fine, caught, map[int]string{4: "0 3"}},
		{2, Coarse, held, map[int]string{1: "0", 2: "", 3: "2", 4: "0"}},
		{2, Fine, held, map[int]string{1: "0", 2: "", 3: "2", 4: "0"}},
		{2, Coarse, params, map[int]string{0: "", 1: "0", 3: "2"}},
		{3, Coarse, setting, map[int]string{0: "", 1: "0", 2: "0", 3: "0"}},
		{3, Fine, caught, map[int]string{0: "", 2: "0", 4: "0"}},
		{3, Coarse, held, map[int]string{1: "0", 2: "0", 3: "0", 4: "0"}},
		{3, Coarse, params, map[int]string{0: "", 1: "", 3: "2"}},
		{3, Coarse, inner, map[int]string{1: "0", 2: "0", 3: "2", 4: "0", 5: "2", 7: "6"}},
		{4, Coarse, outside, map[int]string{0: "", 1: "4", 2: "5", 3: "1 2", 4: "1", 5: "2", 6: ""}},
		{4, Coarse, far, map[int]string{1: "", 2: "", 3: "", 4: "0 2"}},
		{5, Coarse, leaving, map[int]string{0: "", 3: "1 2", 4: "", 5: "1 2", 6: "3 4", 7: "", 9: ""}},
		{5, Coarse, applied, map[int]string{1: "", 3: "", 6: "2 4", 7: "0"}},
		{6, Coarse, leaving, map[int]string{0: "1 2", 1: "2", 2: "1", 3: "4", 4: "3", 5: "6", 7: "5 6", 8: "", 9: "5 6"}},
		{6, Coarse, applied, map[int]string{0: "", 1: "6", 2: "", 5: "4", 6: ""}},
		{7, Coarse, called, map[int]string{0: "1 3 5", 1: "6", 2: "6", 3: "4", 4: "6", 6: ""}},
		{7, Coarse, applied, map[int]string{0: "7", 2: "6", 4: "6", 5: "6", 6: ""}},
	} {
		x := known(t, c.text)
		r := x.rules(c.kind)[c.number-1]
		for n, want := range c.want {
			if got := x.put(r, n); r.number != c.number || got != want {
				t.Errorf("rule %d (%d) puts %q for %d of %s, want %q", r.number, c.kind, got, n, c.text, want)
			}
		}
	}
}

// The rules of both kinds are the seven of the chapter.
func TestNumbers(t *testing.T) {
	for _, k := range []Kind{Coarse, Fine} {
		rules := known(t, setting).rules(k)
		if len(rules) != 7 {
			t.Fatalf("%d rules", len(rules))
		}
		for i, r := range rules {
			if r.number != i+1 {
				t.Errorf("rule %d is at place %d", r.number, i)
			}
		}
	}
}

// P5.8: what Agree would tell if the run of a slice showed something else.
func TestHasSame(t *testing.T) {
	made := func(end api.End, out ...int64) printing {
		r := printing{outcome: api.Outcome{End: end, Out: out}}
		for i := range out {
			r.lines = append(r.lines, i%2)
		}
		return r
	}
	whole := made(api.EnDone, 1, 2, 3) // statement 0 prints 1 and 3, statement 1 prints 2
	whole.lines = []int{4, 7, 4}       // they are 4 and 7 in the whole program
	for _, c := range []struct {
		part, whole printing
		of          []int
		want        bool
	}{
		{made(api.EnDone, 1, 2, 3), whole, []int{4, 7}, true},
		{made(api.EnDone, 1, 9, 3), whole, []int{4}, true},
		{made(api.EnDone, 1, 9, 3), whole, []int{4, 7}, false},
		{made(api.EnDone, 1, 9, 3), whole, []int{7}, false},
		{made(api.EnDone, 3, 2, 1), whole, []int{4}, false},
		{made(api.EnDone, 1, 2), whole, []int{4}, false},
		{made(api.EnDone, 1, 2, 3, 2), whole, []int{7}, false},
		{made(api.EnDone), whole, nil, true},
		{made(api.EnDone), whole, []int{4}, false},
		{made(api.EnFuel, 1, 2, 3), whole, []int{4, 7}, false},
		{made(api.EnFault), whole, nil, false},
		{made(api.EnThrown), whole, nil, false},
		{made(api.EnFault), made(api.EnFault, 1), []int{4}, true},
		{made(api.EnDone), made(api.EnFuel, 1), []int{4}, true},
		{made(api.EnDone), made(api.EnThrown, 1), []int{4}, true},
	} {
		if got := c.part.hasSame(c.whole, []int{4, 7}, c.of); got != c.want {
			t.Errorf("%+v and %+v, for %v: %t", c.part, c.whole, c.of, got)
		}
	}
}

// Sets: what they have, and how they grow.
func TestSets(t *testing.T) {
	type letter int
	leads := func(n letter) []letter { return [][]letter{{1}, {2, 0, -1}, {2}, {4}, {3, 1}, nil}[n] }
	for _, c := range []struct {
		first []letter
		want  string
	}{
		{nil, "[]"}, {[]letter{-1}, "[]"}, {[]letter{2}, "[2]"}, {[]letter{0}, "[0 1 2]"}, {[]letter{3}, "[0 1 2 3 4]"}, {[]letter{5, 0, 5, 0}, "[0 1 2 5]"},
	} {
		s := grown(6, c.first, leads)
		if got := fmt.Sprint(s.list()); got != c.want {
			t.Errorf("grown from %v: %s, want %s", c.first, got, c.want)
		}
		in, out := s.split([]letter{5, 3, 3, 0})
		if len(in)+len(out) != 4 {
			t.Errorf("split: %v and %v", in, out)
		}
		for _, x := range in {
			if !s.has(x) {
				t.Errorf("split: %v and %v", in, out)
			}
		}
		for _, x := range out {
			if s.has(x) {
				t.Errorf("split: %v and %v", in, out)
			}
		}
	}
}

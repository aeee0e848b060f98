package rank_test

import (
	"fmt"
	"slices"
	"strings"
	"testing"

	"sleuth/api"
	"sleuth/lang"
	"sleuth/machine"
	"sleuth/rank"
)

// P7.3: diagnoses, worked out by hand.
func TestDiagnose(t *testing.T) {
	grows := "let x = input; if x < 3 { x = x + 1; } print x;" // 0 let, 1 if, 2 set, 3 print
	two := "let a = 1; let b = 2; print a; print b;"
	for _, c := range []struct {
		body, tests, domain string
		choices, size       int
		want                [][]int
	}{
		// all tests are met
		{grows, "1 > 2, 5 > 5", "0", 0, 3, [][]int{nil}}, {grows, "1 > 2", "0 1", 6, 0, [][]int{nil}}, {"", ">", "0", 0, 3, [][]int{nil}},
		// 5 should have become 6
		{grows, "1 > 2, 5 > 6", "0 1", 1, 2, sets("1")}, {grows, "1 > 2, 5 > 6", "0 1", 1, 0, nil}, {grows, "1 > 2, 5 > 6", "2 6", 1, 1, sets("1,3")}, {grows, "1 > 2, 5 > 6", "0 6", 1, 3, sets("1")},
		{grows, "1 > 2, 5 > 6", "2 6", 0, 3, nil}, {grows, "1 > 2, 5 > 6", "1 6", 3, 3, sets("0,1")}, {grows, "5 > 7", "2 7", 1, 1, sets("0,3")}, {grows, "5 > 7", "2 7", 2, 3, sets("0,3,1 2")},
		// two outputs are wrong
		{two, "> 5 6", "5 6", 2, 1, nil}, {two, "> 5 6", "5 6", 2, 2, sets("0 1,0 3,1 2,2 3")}, {two, "> 5 6", "5 6", 2, 3, sets("0 1,0 3,1 2,2 3")}, {two, "> 5 6", "5 6", 1, 3, nil}, {two, "> 5 6", "5 7", 2, 3, nil},
		{two, "> 5 2", "5", 2, 3, sets("0,2")}, {two, "> 5 2, > 1 5", "2 5", 1, 3, nil}, {two, "> 5 2, > 1 5", "1 2 5", 2, 3, sets("0 1,0 3,1 2,2 3")},
		// three of them
		{"print 1; print 2; print 3;", "> 7 7 7", "7", 3, 3, sets("0 1 2")}, {"print 1; print 2; print 3;", "> 7 7 7", "7", 3, 2, nil},
		// nothing can help: there is one output too few, or an assertion
		{"print 1;", "> 1 2", "1 2", 6, 3, nil}, {"assert 0;", ">", "1", 6, 3, nil}, {"", "> 1", "1", 6, 3, nil},
		// what is not executed yet is opened behind what leads to it
		{"let a = 0; if a { if a - 1 { print 3; } }", "> 4", "1 4", 3, 1, nil}, {"let a = 0; if a { if a - 1 { print 3; } }", "> 4", "1 4", 3, 3, sets("0 3,1 3")}, {"let a = 0; if a { if a - 1 { print 3; } }", "> 4", "0 1", 3, 3, nil},
		{"let a = 0; if a { if a - 1 { print 3; } }", "> 3", "1 4", 3, 3, sets("0,1")},
		// what stands in a closure disappears with it
		{"let g = fn () { print 1; return 2; }; print g.();", "> 2", "2", 3, 3, sets("3")}, {"print fn () { print 1; return 2; }.();", "> 2", "2", 3, 3, sets("0")}, {"print fn () { print 1; return 2; }.();", "> 2 2", "2", 3, 3, sets("1")},
		{"let g = fn (a) { return a; }; print g.(1); print g.(2);", "> 4 4", "4", 2, 3, sets("1,2 3")},
		{"let g = fn () { return 0; }; if g == 5 { print 1; }", "> 7", "5 7", 2, 3, sets("0 3,2 3")}, // with 0 open, the print has another number
	} {
		if got := diagnosed(t, body(t, c.body), tests(c.tests), wide(c.domain), c.choices, 99, c.size); !sameLists(got, c.want) {
			t.Errorf("Diagnose(%s) of %s by %s, %d choices, up to %d: %v, want %v", c.body, c.tests, c.domain, c.choices, c.size, got, c.want)
		}
	}
	late := parsed(t, "fun f(a) { return a; } fun main() { let x = 0; if x { print f(1); } }") // 0 is reached behind 1 or 2 only
	if got := diagnosed(t, late, tests("> 7"), []int64{7}, 2, 99, 2); !sameLists(got, sets("0 1,0 2,1 3,2 3")) {
		t.Errorf("another function: %v", got)
	}
	if got := diagnosed(t, body(t, "print 1;"), nil, []int64{1}, 0, 0, 3); !sameLists(got, [][]int{nil}) {
		t.Errorf("no tests: %v", got)
	}
}

// P7.3, P7.6: a statement in a closure that is never called may be a diagnosis, because a closure that holds less is made in fewer steps.
func TestDiagnoseClosure(t *testing.T) {
	p := body(t, "let a = 1; let g = fn () { print a; }; print 1;") // 9 steps: 2 for a, 3 for g, 2 for the print, 2 at the end
	for fuel, want := range map[int][][]int{9: {nil}, 8: sets("1,2"), 7: nil} {
		if got := diagnosed(t, p, tests("> 1"), []int64{1}, 3, fuel, 3); !sameLists(got, want) {
			t.Errorf("fuel %d: %v, want %v", fuel, got, want)
		}
	}
}

// line returns a chain of so many lets, the last one of which is printed: each of these statements decides what is printed.
func line(name string, lets int) string {
	s := fmt.Sprintf("let %s0 = 0; ", name)
	for i := range lets - 1 {
		s += fmt.Sprintf("let %s%d = %s%d; ", name, i+1, name, i)
	}
	return s + fmt.Sprintf("print %s%d; ", name, lets-1)
}

// P7.3: there are at most MaxSets diagnoses.
func TestDiagnoseLimit(t *testing.T) {
	for _, c := range []struct {
		body  string
		tests string
		size  int
		count int // -1 for too many
	}{
		{line("a", 15) + line("b", 15), "> 5 5", 2, 256}, {line("a", 15) + line("b", 15), "> 5 5", 1, 0}, {line("a", 16) + line("b", 15), "> 5 5", 2, -1}, {line("a", 16) + line("b", 15), "> 5 5", 3, -1}, {line("a", 16) + line("b", 15), "> 5 5", 1, 0},
		{line("a", 63), "> 5", 1, 64}, {strings.Repeat("if 1 { } ", 300), ">", 3, 1},
	} {
		l, e := rank.Diagnose(body(t, c.body), tests(c.tests), []int64{5}, 2, 999, c.size)
		want := api.OK
		if c.count < 0 {
			c.count, want = 0, api.ErrLimit
		}
		if e != want || len(l) != c.count {
			t.Errorf("Diagnose up to %d: error %d, %d diagnoses, want %d, %d", c.size, e, len(l), want, c.count)
		}
	}
}

// modelDiagnoses goes through all sets in their order.
func modelDiagnoses(t *testing.T, p api.Program, q puzzle, size int) [][]int {
	t.Helper()
	openable, _ := rank.Openable(p)
	var found [][]int
	for _, at := range subsets(openable, size) {
		if slices.ContainsFunc(found, func(s []int) bool { return isWithin(s, at) }) {
			continue
		}
		if _, ok := explained(t, p, at, q.tests, q.domain, q.choices, q.fuel); ok {
			found = append(found, at)
		}
	}
	return found
}

// hasAny reports whether a program has a node of one of some kinds.
func hasAny(l []api.Node, kinds ...api.Kind) bool {
	return slices.ContainsFunc(l, func(n api.Node) bool {
		return slices.Contains(kinds, n.Kind) || hasAny(n.Subs, kinds...) || hasAny(n.Body, kinds...) || hasAny(n.Else, kinds...)
	})
}

// isPlain reports whether a program has no closure and starts no thread.
func isPlain(p api.Program) bool {
	return !slices.ContainsFunc(p.Funcs, func(f api.Func) bool { return hasAny(f.Body, api.KiFn, api.KiSpawn) })
}

// P7.6, P0.6: each diagnosis explains all tests, with its witnesses, and no proper subset of it does; no set that does is without one.
func TestRandomDiagnoses(t *testing.T) {
	sizes, plain := map[int]int{}, 0
	programs(t, 220, 7, false, func(m *maker, p api.Program) {
		q := m.puzzle(t, p, 2)
		size := 1 + m.Intn(2)
		if lang.Count(p) <= 8 {
			size = 3
		}
		found := diagnosed(t, p, q.tests, q.domain, q.choices, q.fuel, size)
		if want := modelDiagnoses(t, p, q, size); !sameLists(found, want) {
			t.Fatalf("Diagnose of %+v up to %d: %v, want %v", q, size, found, want)
		}
		for _, s := range found {
			sizes[len(s)]++
			checkDiagnosis(t, p, q, s)
			if isPlain(p) {
				plain++
				checkCovered(t, p, q, s)
			}
		}
	})
	if sizes[0] < 10 || sizes[1] < 50 || sizes[2] < 5 || plain < 20 {
		t.Errorf("diagnoses by their sizes: %v, %d of plain programs", sizes, plain)
	}
}

// checkDiagnosis checks that a set explains all tests, by witnesses with which the opened program meets them, and that without any element it does not.
func checkDiagnosis(t *testing.T, p api.Program, q puzzle, set []int) {
	t.Helper()
	w, ok := explained(t, p, set, q.tests, q.domain, q.choices, q.fuel)
	open, _ := rank.Open(p, set)
	for i, x := range q.tests {
		if !ok || len(w[i]) > q.choices || len(x.Given.Clocks) > 0 {
			t.Fatalf("%v: %v, %v", set, ok, w)
		}
		x.Given.Clocks = w[i]
		if met, e := rank.Meets(open, x, q.fuel); e != api.OK || !met {
			t.Fatalf("%v: error %d, the test %d with %v", set, e, i, w[i])
		}
		m, _ := machine.New(open, x.Given)
		m.Finish(q.fuel)
		if m.State().Clocks != len(w[i]) {
			t.Fatalf("%v: not all of %v are read", set, w[i])
		}
	}
	for _, s := range subsets(set, len(set)-1) {
		if _, ok := explained(t, p, s, q.tests, q.domain, q.choices, q.fuel); ok && len(set) > 0 {
			t.Fatalf("%v explains all tests, and so does %v", set, s)
		}
	}
}

// checkCovered checks that a diagnosis has, for each test that the program does not meet, a statement that its run covers.
func checkCovered(t *testing.T, p api.Program, q puzzle, set []int) {
	t.Helper()
	s, e := rank.Cover(p, q.tests, api.BaStatement, q.fuel)
	if e != api.OK {
		t.Fatalf("Cover: error %d", e)
	}
	for _, row := range s.Rows {
		if row.Fail && !haveCommon(row.Hits, set) {
			t.Fatalf("%v has nothing of %v", set, row.Hits)
		}
	}
}

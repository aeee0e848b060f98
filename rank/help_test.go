package rank_test

import (
	"cmp"
	"fmt"
	"math/rand"
	"slices"
	"strings"
	"testing"

	"sleuth/api"
	"sleuth/lang"
	"sleuth/rank"
)

func ratio(num, den int64) api.Ratio { return api.Ratio{Num: num, Den: den} }

// numbers returns the numbers in a text, with blanks between them.
func numbers(text string) []int {
	var l []int
	for _, s := range strings.Fields(text) {
		var n int
		if _, e := fmt.Sscan(s, &n); e != nil {
			panic(e)
		}
		l = append(l, n)
	}
	return l
}

// wide returns the numbers in a text as numbers of 64 bits.
func wide(text string) []int64 {
	var l []int64
	for _, n := range numbers(text) {
		l = append(l, int64(n))
	}
	return l
}

// sets returns the sets in a text, with commas between them; an empty text has none.
func sets(text string) [][]int {
	if text == "" {
		return nil
	}
	var l [][]int
	for _, s := range strings.Split(text, ",") {
		l = append(l, numbers(s))
	}
	return l
}

// until returns the numbers from 0 to n - 1.
func until(n int) []int { return between(0, n) }

// between returns the numbers from a to b - 1.
func between(a, b int) []int {
	var l []int
	for i := a; i < b; i++ {
		l = append(l, i)
	}
	return l
}

// subsets returns all subsets of a set that have at most size elements, in the order of sets.
func subsets(set []int, size int) [][]int {
	l := [][]int{nil}
	for _, x := range set {
		for _, s := range l {
			if len(s) < size {
				l = append(l, append(slices.Clip(s), x))
			}
		}
	}
	slices.SortFunc(l, func(a, b []int) int { return cmp.Or(len(a)-len(b), slices.Compare(a, b)) })
	return l
}

// some returns a random subset, each element with a chance of one in so many.
func some(r *rand.Rand, set []int, of int) []int {
	var l []int
	for _, x := range set {
		if r.Intn(of) == 0 {
			l = append(l, x)
		}
	}
	return l
}

// isWithin reports whether all elements of a list are in another one.
func isWithin(l, in []int) bool {
	return !slices.ContainsFunc(l, func(n int) bool { return !slices.Contains(in, n) })
}

// haveCommon reports whether two lists have an element in common.
func haveCommon(a, b []int) bool {
	return slices.ContainsFunc(a, func(n int) bool { return slices.Contains(b, n) })
}

// sameLists compares lists of lists; a nil list is an empty one.
func sameLists[E comparable](a, b [][]E) bool { return slices.EqualFunc(a, b, slices.Equal) }

// spectrum returns the spectrum of so many components whose rows stand in a text, with commas between them: f or p, then what the row covers.
func spectrum(parts int, text string) api.Spectrum {
	s := api.Spectrum{Parts: parts}
	if text == "" {
		return s
	}
	for _, row := range strings.Split(text, ",") {
		row = strings.TrimSpace(row)
		s.Rows = append(s.Rows, api.Row{Hits: numbers(row[1:]), Fail: row[0] == 'f'})
	}
	return s
}

func sameSpectrum(a, b api.Spectrum) bool {
	return a.Parts == b.Parts && slices.EqualFunc(a.Rows, b.Rows, func(x, y api.Row) bool {
		return x.Fail == y.Fail && slices.Equal(x.Hits, y.Hits)
	})
}

func isNothing(s api.Spectrum) bool { return s.Parts == 0 && len(s.Rows) == 0 }

// randomSpectrum returns a spectrum of few components and rows, most of the time.
func randomSpectrum(r *rand.Rand) api.Spectrum {
	s := api.Spectrum{Parts: 1 + r.Intn(8)}
	rows := r.Intn(8)
	if r.Intn(20) == 0 {
		s.Parts, rows = api.MaxParts-r.Intn(9), api.MaxTests-r.Intn(9)
	}
	fails := 1 + r.Intn(4)
	for range rows {
		s.Rows = append(s.Rows, api.Row{Hits: some(r, until(s.Parts), 1+r.Intn(3)), Fail: r.Intn(fails) == 0})
	}
	return s
}

// formulas returns all formulas.
func formulas() []api.Formula {
	var l []api.Formula
	for f := api.FoTarantula; f <= api.FoZoltar; f++ {
		l = append(l, f)
	}
	return l
}

// brokenSpectra returns spectra with the errors that CheckSpectrum has to find.
func brokenSpectra() map[api.Errno][]api.Spectrum {
	return map[api.Errno][]api.Spectrum{
		api.ErrArg: {
			{}, {Parts: -1}, {Parts: -1 << 63},
			{Rows: make([]api.Row, api.MaxTests+1)}, // the components come first
			spectrum(3, "f 3"), spectrum(3, "f 0 1 2 3"), spectrum(3, "p -1"), spectrum(3, "p -1 0 1"), spectrum(3, "f 1 1"), spectrum(3, "f 1 0"), spectrum(3, "p 0 1, f 0 2 1"),
			spectrum(api.MaxParts, "p 0 256"),
			{Parts: 5, Rows: []api.Row{{}, {Hits: []int{1 << 62}}, {}}},
			{Parts: 5, Rows: []api.Row{{Hits: []int{-1 << 63, 1}}}},
		},
		api.ErrLimit: {
			{Parts: api.MaxParts + 1}, {Parts: 1<<63 - 1},
			{Parts: 1, Rows: make([]api.Row, api.MaxTests+1)},
			{Parts: 1, Rows: slices.Repeat([]api.Row{{Hits: []int{7}}}, api.MaxTests+1)}, // the number of rows comes ahead of what they cover
			spectrum(api.MaxParts+1, "f -1"),
		},
	}
}

// brokenSets returns lists of sets with the errors that CheckSets has to find.
func brokenSets() map[api.Errno][][][]int {
	return map[api.Errno][][][]int{
		api.ErrArg: {
			sets("-1"), sets("256"), sets("0 256"), sets("1 1"), sets("2 1"), sets("0 1 2, 3, 4 4"), sets("-1 5"),
			{nil, {1 << 62}}, {{-1 << 63, 1<<63 - 1}}, slices.Repeat([][]int{{3, 2}}, api.MaxSets),
		},
		api.ErrLimit: {make([][]int, api.MaxSets+1), slices.Repeat([][]int{{-1}}, api.MaxSets+1)},
	}
}

// parsed returns the program with a text.
func parsed(t *testing.T, text string) api.Program {
	t.Helper()
	p, at, e := lang.Parse(text)
	if e != api.OK {
		t.Fatalf("Parse(%q): error %d at %d", text, e, at)
	}
	return p
}

// body returns the program with nothing but these statements.
func body(t *testing.T, text string) api.Program {
	t.Helper()
	return parsed(t, "fun main() { "+text+" }")
}

// written returns the written form of a program on one line.
func written(t *testing.T, p api.Program) string {
	t.Helper()
	s, e := lang.Print(p)
	if e != api.OK {
		t.Fatalf("Print: error %d", e)
	}
	return strings.Join(strings.Fields(s), " ")
}

// test returns the test with the inputs and the output of a text, with a > between them.
func test(text string) api.Test {
	inputs, out, _ := strings.Cut(text, ">")
	return api.Test{Given: api.Given{Inputs: wide(inputs)}, Out: wide(out)}
}

// tests returns the tests in a text, with commas between them.
func tests(text string) []api.Test {
	var l []api.Test
	for _, s := range strings.Split(text, ",") {
		l = append(l, test(s))
	}
	return l
}

// brokenPrograms returns programs with the errors of lang.Check.
func brokenPrograms(t *testing.T) map[api.Errno][]api.Program {
	t.Helper()
	return map[api.Errno][]api.Program{
		api.ErrName:  {{}, parsed(t, "fun f() { }"), body(t, "print x;"), body(t, "print clock; print f();")},
		api.ErrArg:   {parsed(t, "fun main(x) { }"), {Funcs: []api.Func{{Name: "main", Body: []api.Node{{Kind: api.KiNum}}}}}, {Funcs: []api.Func{{Name: "main", Body: []api.Node{{Kind: 99}}}}}},
		api.ErrTwice: {parsed(t, "fun main() { } fun main() { }"), body(t, "let x = 1; let x = clock;")},
		api.ErrLimit: {{Funcs: make([]api.Func, api.MaxFuncs+1)}},
	}
}

// explained returns what Explain says, without an error.
func explained(t *testing.T, p api.Program, at []int, l []api.Test, domain []int64, choices, fuel int) ([][]int64, bool) {
	t.Helper()
	w, ok, e := rank.Explain(p, at, l, domain, choices, fuel)
	if e != api.OK || !ok && len(w) > 0 || ok && len(w) != len(l) {
		t.Fatalf("Explain(%s; %v): error %d, %v, %v", written(t, p), at, e, w, ok)
	}
	return w, ok
}

// diagnosed returns the diagnoses, without an error.
func diagnosed(t *testing.T, p api.Program, l []api.Test, domain []int64, choices, fuel, size int) [][]int {
	t.Helper()
	found, e := rank.Diagnose(p, l, domain, choices, fuel, size)
	if e != api.OK {
		t.Fatalf("Diagnose(%s): error %d", written(t, p), e)
	}
	return found
}

package slice_test

import (
	"fmt"
	"slices"
	"strings"
	"testing"

	"sleuth/api"
	"sleuth/lang"
	"sleuth/slice"
)

// parsed returns the program with a text.
func parsed(t *testing.T, text string) api.Program {
	t.Helper()
	p, at, e := lang.Parse(text)
	if e != api.OK {
		t.Fatalf("Parse(%q): error %d at %d", text, e, at)
	}
	return p
}

// main returns the text of a program with nothing but these statements.
func main(body string) string { return "fun main() { " + body + " }" }

// numbers returns the numbers in a text, with blanks between them.
func numbers(text string) []int {
	var l []int
	for _, s := range strings.Fields(text) {
		var n int
		if _, e := fmt.Sscan(s, &n); e != nil {
			panic(e)
		}
		l = append(l, n)
	}
	return l
}

// until returns the numbers from 0 to n - 1.
func until(n int) []int {
	var l []int
	for i := range n {
		l = append(l, i)
	}
	return l
}

// kinds is both kinds of slices.
var kinds = []slice.Kind{slice.Coarse, slice.Fine}

// backward returns a slice, which there must be.
func backward(t *testing.T, p api.Program, k slice.Kind, of ...int) []int {
	t.Helper()
	l, e := slice.Backward(p, k, of)
	if e != api.OK {
		t.Fatalf("Backward(%d, %v): error %d", k, of, e)
	}
	return l
}

// forward returns what Forward returns, without an error.
func forward(t *testing.T, p api.Program, k slice.Kind, of ...int) []int {
	t.Helper()
	l, e := slice.Forward(p, k, of)
	if e != api.OK {
		t.Fatalf("Forward(%d, %v): error %d", k, of, e)
	}
	return l
}

// cut returns the program of a slice, which there must be.
func cut(t *testing.T, p api.Program, k slice.Kind, of ...int) (api.Program, []int) {
	t.Helper()
	q, l, e := slice.Program(p, k, of)
	if e != api.OK {
		t.Fatalf("Program(%d, %v): error %d", k, of, e)
	}
	return q, l
}

// written returns the written form of a program on one line.
func written(t *testing.T, p api.Program) string {
	t.Helper()
	s, e := lang.Print(p)
	if e != api.OK {
		t.Fatalf("Print: error %d", e)
	}
	return strings.Join(strings.Fields(s), " ")
}

// printsOf returns the KiPrints of a program.
func printsOf(p api.Program) []int {
	var l []int
	for n := range lang.Count(p) {
		if node, _ := lang.At(p, n); node.Kind == api.KiPrint {
			l = append(l, n)
		}
	}
	return l
}

// isWithin reports whether all elements of a list are in another one.
func isWithin(l, in []int) bool {
	return !slices.ContainsFunc(l, func(n int) bool { return !slices.Contains(in, n) })
}

// sameLists compares lists of lists; a nil list is an empty one.
func sameLists(a, b [][]int) bool { return slices.EqualFunc(a, b, slices.Equal) }

func sameEffect(a, b slice.Effect) bool {
	return a.Unit == b.Unit && a.Parent == b.Parent && slices.Equal(a.Reads, b.Reads) && a.Sets == b.Sets &&
		a.Loads == b.Loads && a.Stores == b.Stores && a.Inputs == b.Inputs && a.Clocks == b.Clocks &&
		slices.Equal(a.Calls, b.Calls) && a.Applies == b.Applies && a.Jumps == b.Jumps && a.Throws == b.Throws
}

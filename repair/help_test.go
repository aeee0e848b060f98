package repair_test

import (
	"fmt"
	"slices"
	"strings"
	"testing"

	"sleuth/api"
	"sleuth/lang"
	"sleuth/learn"
	"sleuth/repair"
)

const (
	top      = api.MaxValue
	least    = -1 << 63
	greatest = 1<<63 - 1
)

// parsed returns the program with a text.
func parsed(t *testing.T, text string) api.Program {
	t.Helper()
	p, at, e := lang.Parse(text)
	if e != api.OK {
		t.Fatalf("Parse(%q): error %d at %d", text, e, at)
	}
	return p
}

// body returns the program with nothing but these statements.
func body(t *testing.T, text string) api.Program {
	t.Helper()
	return parsed(t, "fun main() { "+text+" }")
}

// oneLine writes a text that has several lines on one.
func oneLine(text string) string { return strings.Join(strings.Fields(text), " ") }

// written returns the written form of a program on one line.
func written(t *testing.T, p api.Program) string {
	t.Helper()
	s, e := lang.Print(p)
	if e != api.OK {
		t.Fatalf("Print: error %d", e)
	}
	return oneLine(s)
}

// statements returns the statements in a text.
func statements(t *testing.T, text string) []api.Node {
	t.Helper()
	return body(t, text).Funcs[0].Body
}

// writtenList writes statements on one line.
func writtenList(t *testing.T, l []api.Node) string {
	t.Helper()
	s := written(t, api.Program{Funcs: []api.Func{{Name: "main", Body: l}}})
	return strings.TrimSpace(strings.TrimSuffix(strings.TrimPrefix(s, "fun main() {"), "}"))
}

// patch returns the patch whose edits stand in texts: a number, a colon, and the statements.
func patch(t *testing.T, edits ...string) api.Patch {
	t.Helper()
	var x api.Patch
	for _, s := range edits {
		at, with, _ := strings.Cut(s, ":")
		x.Edits = append(x.Edits, api.Edit{At: int(number(at)), With: statements(t, with)})
	}
	return x
}

// writtenPatch writes a patch as patch reads it, with bars between the edits.
func writtenPatch(t *testing.T, x api.Patch) string {
	t.Helper()
	return writtenEdits(t, x.Edits)
}

func writtenEdits(t *testing.T, edits []api.Edit) string {
	t.Helper()
	var l []string
	for _, y := range edits {
		l = append(l, strings.TrimSpace(fmt.Sprintf("%d: %s", y.At, writtenList(t, y.With))))
	}
	return strings.Join(l, " | ")
}

func sameNodes(a, b []api.Node) bool {
	return lang.Same(api.Program{Funcs: []api.Func{{Body: a}}}, api.Program{Funcs: []api.Func{{Body: b}}})
}

func sameEdits(x, y []api.Edit) bool {
	return slices.EqualFunc(x, y, func(a, b api.Edit) bool { return a.At == b.At && sameNodes(a.With, b.With) })
}

func samePatch(x, y api.Patch) bool { return sameEdits(x.Edits, y.Edits) }

// patchOf returns the patch of some edits.
func patchOf(l ...api.Edit) api.Patch { return api.Patch{Edits: l} }

// applied returns the patched program, without an error.
func applied(t *testing.T, p api.Program, x api.Patch) api.Program {
	t.Helper()
	q, e := repair.Apply(p, x)
	if e != api.OK {
		t.Fatalf("Apply(%s; %s): error %d", written(t, p), writtenPatch(t, x), e)
	}
	return q
}

// judged returns a judgement, without an error.
func judged(t *testing.T, p api.Program, x api.Patch, s api.Suite) api.Judgement {
	t.Helper()
	j, e := repair.Judge(p, x, s)
	if e != api.OK {
		t.Fatalf("Judge(%s; %s) by %v: error %d", written(t, p), writtenPatch(t, x), s, e)
	}
	return j
}

func sameJudgement(a, b api.Judgement) bool {
	return slices.Equal(a.Failed, b.Failed) && slices.Equal(a.Broken, b.Broken) && slices.Equal(a.Lost, b.Lost) && slices.Equal(a.Changed, b.Changed) && slices.Equal(a.Worse, b.Worse)
}

func sameOutcome(a, b api.Outcome) bool {
	return a.End == b.End && a.Fault == b.Fault && a.Line == b.Line && a.Value == b.Value && a.Steps == b.Steps && slices.Equal(a.Out, b.Out)
}

func sameRows(x, y [][]int64) bool { return slices.EqualFunc(x, y, slices.Equal[[]int64]) }

// number returns the number in a text.
func number(text string) int64 {
	var n int64
	if _, e := fmt.Sscan(text, &n); e != nil {
		panic(text)
	}
	return n
}

// wide returns the numbers in a text, with blanks between them.
func wide(text string) []int64 {
	var l []int64
	for _, s := range strings.Fields(text) {
		l = append(l, number(s))
	}
	return l
}

// numbers returns the numbers in a text as ints.
func numbers(text string) []int {
	var l []int
	for _, n := range wide(text) {
		l = append(l, int(n))
	}
	return l
}

// table returns the rows in a text, with commas between them; an empty text has none.
func table(text string) [][]int64 {
	if text == "" {
		return nil
	}
	var rows [][]int64
	for _, s := range strings.Split(text, ",") {
		rows = append(rows, wide(s))
	}
	return rows
}

// names returns the words of a text.
func names(text string) []string { return strings.Fields(text) }

// given returns what a run with some inputs is given.
func given(inputs ...int64) api.Given { return api.Given{Inputs: inputs} }

// tests returns the tests in a text, with commas between them: the inputs and the output, with a > between them. An empty text has none.
func tests(text string) []api.Test {
	var l []api.Test
	for _, s := range strings.Split(text, ",") {
		inputs, out, ok := strings.Cut(s, ">")
		if ok {
			l = append(l, api.Test{Given: given(wide(inputs)...), Out: wide(out)})
		}
	}
	return l
}

// on returns the contract of a statement with the claims in a text, with commas between them, about some names.
func on(at int, about, text string) api.Contract {
	c := api.Contract{At: at, Names: names(about)}
	for _, s := range strings.Split(text, ",") {
		if s = strings.TrimSpace(s); s == "" {
			continue
		}
		x, e := learn.Read(s, c.Names)
		if e != api.OK {
			panic(fmt.Sprint(s, e))
		}
		c.Claims = append(c.Claims, x)
	}
	return c
}

// inv returns the invariant with all these fields.
func inv(k api.Claim, a, b int, key, m int64, set ...int64) api.Invariant {
	return api.Invariant{Kind: k, A: a, B: b, K: key, M: m, Set: set}
}

// brokenPrograms returns programs with the errors of lang.Check.
func brokenPrograms(t *testing.T) map[api.Errno]api.Program {
	t.Helper()
	return map[api.Errno]api.Program{
		api.ErrName:  body(t, "print x;"),
		api.ErrArg:   {Funcs: []api.Func{{Name: "main", Body: []api.Node{{Kind: api.KiNum}}}}},
		api.ErrTwice: body(t, "let x = 1; let x = 2;"),
		api.ErrLimit: {Funcs: make([]api.Func, api.MaxFuncs+1)},
	}
}

// until returns the numbers from 0 to n - 1.
func until(n int) []int {
	var l []int
	for i := range n {
		l = append(l, i)
	}
	return l
}

// expression returns the written form of an expression.
func expression(t *testing.T, n api.Node) string {
	t.Helper()
	s, e := lang.Expr(n)
	if e != api.OK {
		t.Fatalf("Expr(%v): error %d", n, e)
	}
	return oneLine(s)
}

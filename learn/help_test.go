package learn_test

import (
	"fmt"
	"slices"
	"strings"
	"testing"

	"sleuth/api"
	"sleuth/lang"
	"sleuth/learn"
	"sleuth/record"
)

const top = api.MaxValue

// parsed returns the program with a text.
func parsed(t *testing.T, text string) api.Program {
	t.Helper()
	p, at, e := lang.Parse(text)
	if e != api.OK {
		t.Fatalf("Parse(%q): error %d at %d", text, e, at)
	}
	return p
}

// body returns the program with nothing but these statements.
func body(t *testing.T, text string) api.Program {
	t.Helper()
	return parsed(t, "fun main() { "+text+" }")
}

// written returns the written form of a program on one line.
func written(t *testing.T, p api.Program) string {
	t.Helper()
	s, e := lang.Print(p)
	if e != api.OK {
		t.Fatalf("Print: error %d", e)
	}
	return strings.Join(strings.Fields(s), " ")
}

// number returns the number in a text.
func number(text string) int64 {
	var n int64
	if _, e := fmt.Sscan(text, &n); e != nil {
		panic(text)
	}
	return n
}

// numbers returns the numbers in a text, with blanks between them.
func numbers(text string) []int64 {
	var l []int64
	for _, s := range strings.Fields(text) {
		l = append(l, number(s))
	}
	return l
}

// table returns the rows in a text, with commas between them.
func table(text string) [][]int64 {
	var rows [][]int64
	for _, s := range strings.Split(text, ",") {
		rows = append(rows, numbers(s))
	}
	return rows
}

// names returns the words of a text.
func names(text string) []string { return strings.Fields(text) }

// variables is names for as many variables as a row may have.
const variables = "a b c d e f g h"

// claim returns the claim with a text, about the variables a, b, c and so on.
func claim(text string) api.Invariant {
	x, e := learn.Read(text, names(variables))
	if e != api.OK {
		panic(fmt.Sprint(text, e))
	}
	return x
}

// claims returns the claims in a text, with commas between them.
func claims(text string) []api.Invariant {
	var l []api.Invariant
	for _, s := range strings.Split(text, ",") {
		if s = strings.TrimSpace(s); s != "" {
			l = append(l, claim(s))
		}
	}
	return l
}

func sameClaim(x, y api.Invariant) bool {
	return x.Kind == y.Kind && x.A == y.A && x.B == y.B && x.K == y.K && x.M == y.M && slices.Equal(x.Set, y.Set)
}

func sameClaims(x, y []api.Invariant) bool { return slices.EqualFunc(x, y, sameClaim) }

func sameContract(x, y api.Contract) bool {
	return x.At == y.At && slices.Equal(x.Names, y.Names) && sameClaims(x.Claims, y.Claims)
}

func sameRows(x, y [][]int64) bool { return slices.EqualFunc(x, y, slices.Equal[[]int64]) }

func sameOutcome(a, b api.Outcome) bool {
	return a.End == b.End && a.Fault == b.Fault && a.Line == b.Line && a.Value == b.Value && a.Steps == b.Steps && slices.Equal(a.Out, b.Out)
}

// miner returns a miner with some rows.
func miner(t *testing.T, vars int, rows [][]int64) *learn.Miner {
	t.Helper()
	m, e := learn.New(vars)
	if e != api.OK || m == nil {
		t.Fatalf("New(%d): error %d", vars, e)
	}
	for _, row := range rows {
		if e := m.Add(row); e != api.OK {
			t.Fatalf("Add(%v): error %d", row, e)
		}
	}
	return m
}

// given returns what a run with some inputs is given.
func given(inputs ...int64) api.Given { return api.Given{Inputs: inputs} }

// recorded returns the log of a run.
func recorded(t *testing.T, p api.Program, g api.Given, fuel int) api.Log {
	t.Helper()
	l, _, e := record.Record(p, g, fuel)
	if e != api.OK {
		t.Fatalf("Record: error %d", e)
	}
	return l
}

// stateOf returns a state of a log.
func stateOf(t *testing.T, p api.Program, l api.Log, n int) api.State {
	t.Helper()
	r, e := record.Open(p, l, api.MaxSteps)
	if e != api.OK {
		t.Fatalf("Open: error %d", e)
	}
	if e := r.Goto(n); e != api.OK {
		t.Fatalf("Goto(%d): error %d", n, e)
	}
	return r.State()
}

func num(n int64) api.Value { return api.Value{Kind: api.VaInt, N: n} }

func ref(n int64) api.Value { return api.Value{Kind: api.VaRef, N: n} }

func reg(frame, n int) api.Place { return api.Place{Kind: api.PlReg, A: frame, B: n} }

func cellOf(object, n int) api.Place { return api.Place{Kind: api.PlCell, A: object, B: n} }

// brokenPrograms returns programs with the errors of lang.Check.
func brokenPrograms(t *testing.T) map[api.Errno]api.Program {
	t.Helper()
	return map[api.Errno]api.Program{
		api.ErrName:  body(t, "print x;"),
		api.ErrArg:   {Funcs: []api.Func{{Name: "main", Body: []api.Node{{Kind: api.KiNum}}}}},
		api.ErrTwice: body(t, "let x = 1; let x = 2;"),
		api.ErrLimit: {Funcs: make([]api.Func, api.MaxFuncs+1)},
	}
}

// least is the least number.
const least = -1 << 63

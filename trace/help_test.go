package trace_test

import (
	"fmt"
	"slices"
	"strings"
	"testing"

	"sleuth/api"
	"sleuth/lang"
	"sleuth/record"
	"sleuth/trace"
)

// parsed returns the program with a text.
func parsed(t *testing.T, text string) api.Program {
	t.Helper()
	p, at, e := lang.Parse(text)
	if e != api.OK {
		t.Fatalf("Parse(%q): error %d at %d", text, e, at)
	}
	return p
}

// turns returns picks from a text: for each the thread, and how many steps it takes.
func turns(text string) []api.Pick {
	var picks []api.Pick
	for _, s := range strings.Fields(text) {
		var x api.Pick
		if _, e := fmt.Sscanf(s, "%d*%d", &x.Thread, &x.Count); e != nil {
			panic(e)
		}
		picks = append(picks, x)
	}
	return picks
}

// run is a log of a program, and its trace.
type run struct {
	*trace.Trace
	program api.Program
	log     api.Log
	outcome api.Outcome
}

// followed traces the run in which the threads take turns as a text says (turns).
func followed(t *testing.T, text, picks string, g api.Given) run {
	t.Helper()
	p := parsed(t, text)
	l, o, e := record.Follow(p, g, turns(picks), 2000)
	if e != api.OK {
		t.Fatalf("Follow: error %d", e)
	}
	return run{traced(t, p, l), p, l, o}
}

// ran traces the run of a program with some inputs.
func ran(t *testing.T, text string, inputs ...int64) run {
	t.Helper()
	return followed(t, text, "", api.Given{Inputs: inputs})
}

// traced returns the trace of a log, which Of must return without an error.
func traced(t *testing.T, p api.Program, l api.Log) *trace.Trace {
	t.Helper()
	x, e := trace.Of(p, l)
	if e != api.OK || x == nil {
		t.Fatalf("Of: error %d", e)
	}
	return x
}

// event returns the event of a step, which there must be.
func (r run) event(t *testing.T, n int) api.Event {
	t.Helper()
	v, e := r.Event(n)
	if e != api.OK {
		t.Fatalf("Event(%d): error %d", n, e)
	}
	return v
}

// slice returns a slice, which there must be.
func (r run) slice(t *testing.T, n int, k trace.Kind) []int {
	t.Helper()
	l, e := r.Slice(n, k)
	if e != api.OK {
		t.Fatalf("Slice(%d, %d): error %d", n, k, e)
	}
	return l
}

// at returns the step that prints a number of the output, counted from 0 on.
func (r run) at(t *testing.T, out int) int {
	t.Helper()
	n := r.Writer(r.Len(), api.Place{Kind: api.PlOut, A: out})
	if n < 0 {
		t.Fatalf("there is no output number %d", out)
	}
	return n
}

func num(n int64) api.Value { return api.Value{Kind: api.VaInt, N: n} }

func ref(n int64) api.Value { return api.Value{Kind: api.VaRef, N: n} }

func fun(n int64) api.Value { return api.Value{Kind: api.VaFun, N: n} }

func reg(frame, n int) api.Place { return api.Place{Kind: api.PlReg, A: frame, B: n} }

func cellOf(object, n int) api.Place { return api.Place{Kind: api.PlCell, A: object, B: n} }

func placeOf(kind api.PlaceKind, a int) api.Place { return api.Place{Kind: kind, A: a} }

func givenOf(a, b int) api.Place { return api.Place{Kind: api.PlGiven, A: a, B: b} }

// sameEvent compares two events; a nil list is an empty one.
func sameEvent(a, b api.Event) bool {
	return a.Thread == b.Thread && a.Frame == b.Frame && a.Chunk == b.Chunk && a.PC == b.PC && a.Line == b.Line && a.Control == b.Control &&
		slices.Equal(a.Reads, b.Reads) && slices.Equal(a.Writes, b.Writes)
}

func isEmptyEvent(v api.Event) bool { return sameEvent(v, api.Event{}) }

// shownPlace returns a place as a text: r for PlReg, c PlCell, n PlLen, l PlLock, t PlThread, o PlOut, g PlGiven.
func shownPlace(q api.Place) string {
	s := fmt.Sprintf("%c%d", "?rcnltog"[q.Kind], q.A)
	if q.Kind == api.PlReg || q.Kind == api.PlCell || q.Kind == api.PlGiven || q.B != 0 {
		s += fmt.Sprintf(".%d", q.B)
	}
	return s
}

// shownValue returns a value as a text: a number, or & or * and the object.
func shownValue(v api.Value) string { return []string{"", "&", "*"}[v.Kind] + fmt.Sprint(v.N) }

// shown returns the reads and writes of an event as a text: of a read PLACE=VALUE, its role (v, a, t or o), and From; behind an arrow of a write PLACE=VALUE.
func shown(v api.Event) string {
	return strings.TrimSpace(shownReads(v.Reads) + " ->" + shownWrites(v.Writes))
}

func shownReads(l []api.Read) string {
	var s []string
	for _, r := range l {
		s = append(s, fmt.Sprintf("%s=%s%c%d", shownPlace(r.Place), shownValue(r.Value), "vato"[r.Role], r.From))
	}
	return strings.Join(s, " ")
}

func shownWrites(l []api.Write) string {
	s := ""
	for _, w := range l {
		s += " " + shownPlace(w.Place) + "=" + shownValue(w.Value)
	}
	return s
}

// until returns the numbers from 0 to n - 1.
func until(n int) []int {
	var l []int
	for i := range n {
		l = append(l, i)
	}
	return l
}

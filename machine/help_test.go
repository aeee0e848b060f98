package machine_test

import (
	"fmt"
	"strings"
	"testing"

	"sleuth/api"
	"sleuth/lang"
	"sleuth/machine"
)

// parsed returns the program with a text.
func parsed(t *testing.T, text string) api.Program {
	t.Helper()
	p, at, e := lang.Parse(text)
	if e != api.OK {
		t.Fatalf("Parse(%q): error %d at %d", text, e, at)
	}
	return p
}

// compiled returns the code of the program with a text.
func compiled(t *testing.T, text string) api.Code {
	t.Helper()
	c, e := machine.Compile(parsed(t, text))
	if e != api.OK {
		t.Fatalf("Compile(%q): error %d", text, e)
	}
	return c
}

// begun returns a machine at the beginning of a run of the program with a text.
func begun(t *testing.T, text string, g api.Given) *machine.Machine {
	t.Helper()
	m, e := machine.New(parsed(t, text), g)
	if e != api.OK {
		t.Fatalf("New(%q): error %d", text, e)
	}
	return m
}

// resumed returns a machine in a state, which must fit.
func resumed(t *testing.T, p api.Program, g api.Given, s api.State) *machine.Machine {
	t.Helper()
	m, e := machine.Resume(p, g, s)
	if e != api.OK {
		t.Fatalf("Resume in %+v: error %d", s, e)
	}
	return m
}

// finished returns the outcome of a run of the program with a text.
func finished(t *testing.T, text string, g api.Given) api.Outcome {
	t.Helper()
	o, e := machine.Run(parsed(t, text), g, api.MaxSteps)
	if e != api.OK {
		t.Fatalf("Run(%q): error %d", text, e)
	}
	return o
}

// steps lets a machine take so many steps.
func steps(t *testing.T, m *machine.Machine, count int) {
	t.Helper()
	for n := range count {
		if _, ok := m.Step(); !ok {
			t.Fatalf("step %d of %d: the run is over: %+v", n, count, m.State().Outcome)
		}
	}
}

func num(n int64) api.Value { return api.Value{Kind: api.VaInt, N: n} }

func ref(n int64) api.Value { return api.Value{Kind: api.VaRef, N: n} }

func fun(n int64) api.Value { return api.Value{Kind: api.VaFun, N: n} }

// main returns the text of a program with nothing but these statements.
func main(body string) string { return "fun main() { " + body + " }" }

var operations = strings.Fields("none const move unary binary new load store len close call apply spawn input clock jump branch return throw try end join lock unlock print assert")

// asm returns an instruction as text: its operation, and its fields that are not 0.
func asm(i api.Instr) string {
	s := operations[i.Op]
	for _, f := range []struct {
		name string
		n    int64
	}{{"d", int64(i.D)}, {"a", int64(i.A)}, {"b", int64(i.B)}, {"k", i.K}, {"@", int64(i.Line)}} {
		if f.n != 0 {
			s += fmt.Sprintf(" %s%d", f.name, f.n)
		}
	}
	return s
}

// listing returns the code of a chunk, but for its two last instructions.
func listing(c api.Chunk) string {
	var l []string
	for _, i := range c.Code[:len(c.Code)-2] {
		l = append(l, asm(i))
	}
	return strings.Join(l, "; ")
}

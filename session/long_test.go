package session_test

import (
	"fmt"
	"strings"
	"testing"

	"sleuth/api"
	"sleuth/lang"
)

// longProgram returns a program with a print of 9 whose written form has just so many bytes, about MaxText: with functions that nothing calls, and statements deep inside others, whose lines begin with many blanks.
func longProgram(t *testing.T, bytes int) string {
	t.Helper()
	names := 0
	name := func() string {
		names++
		return fmt.Sprintf("n%015d", names)
	}
	tries := func(count int) string {
		s := ""
		for range count {
			s += "try{}catch " + name() + "{}"
		}
		return s
	}
	text := "fun main(){print 9;}"
	for f := range 3 {
		text += fmt.Sprintf("fun a%d(){", f) + strings.Repeat("try{", 22) + tries(42)
		for range 22 {
			text += "}catch " + name() + "{}"
		}
		text += "}"
	}
	for f := range 10 {
		var l []string
		for range api.MaxParams {
			l = append(l, name())
		}
		text += fmt.Sprintf("fun b%d(%s){}", f, strings.Join(l, ","))
	}
	fns := "b0(" + strings.Repeat("fn(){},", 7) + "fn(){})"
	calls := "b1(" + strings.Repeat(fns+",", 7) + fns + ");"
	text += "fun c(){" + strings.Repeat("if 0{", 19) + strings.Repeat(calls, 10) + tries(4)
	numbers := strings.Fields(strings.Repeat("1 ", 16))
	whole := func() string {
		return text + "b2(" + strings.Join(numbers[:8], ",") + ");b3(" + strings.Join(numbers[8:], ",") + ");" + strings.Repeat("}", 20)
	}
	s, e := lang.Print(parsed(t, whole()))
	missing := bytes - len(s)
	if e != api.OK || missing < 0 || missing > 16*18 {
		t.Fatal("the program has", len(s), "bytes, error", e)
	}
	for i := range numbers {
		digits := min(missing, 18)
		numbers[i] += strings.Repeat("0", digits)
		missing -= digits
	}
	return whole()
}

// P10.2, P10.6: the written form of a repaired program may have MaxText bytes, and not more.
func TestLongRepair(t *testing.T) {
	s := began(t, "test ; 10", "program p "+longProgram(t, api.MaxText-1), "program o "+longProgram(t, api.MaxText))
	expect(t, s,
		[2]string{"repair q o 99 0", "error 3"},
		[2]string{"repair q p 99 0", "repair q: statement 0 changed 1 [X]"},
		[2]string{"run r q 99", "run r: end 1 fault 0 line 0 steps 4 out 10 [X]"},
		[2]string{"verify", "verified 2"},
	)
	if x := s.Evidence()[0]; len(x.Program) != api.MaxText-1 || len(x.Other) != api.MaxText {
		t.Error(len(x.Program), len(x.Other))
	}
}

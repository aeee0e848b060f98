package session_test

import (
	"fmt"
	"regexp"
	"slices"
	"strings"
	"testing"

	"sleuth/api"
	"sleuth/lang"
	"sleuth/session"
)

// Programs of which the tests make sessions.
const (
	minus   = "fun main() { let x = input; let y = input; print x - y; }"
	racing  = "fun w(o) { let v = o[0]; o[0] = v + 1; } fun main() { let o = new(1); let t = spawn w(o); let u = spawn w(o); join t; join u; assert o[0] == 2; print o[0]; }"
	bounded = "fun main() { let n = input; let s = n * 2 + 1; assert s < 9; print s; }"
)

// parsed returns the program with a text.
func parsed(t *testing.T, text string) api.Program {
	t.Helper()
	p, at, e := lang.Parse(text)
	if e != api.OK {
		t.Fatalf("Parse(%q): error %d at %d", text, e, at)
	}
	return p
}

// writtenForm returns the written form of the program with a text.
func writtenForm(t *testing.T, text string) string {
	t.Helper()
	s, e := lang.Print(parsed(t, text))
	if e != api.OK {
		t.Fatalf("Print(%q): error %d", text, e)
	}
	return s
}

// cited matches what an answer cites.
var cited = regexp.MustCompile(`\[[0-9a-f]{16}\]$`)

// answer returns the answer to a line that is not refused, with [X] where it cites an evidence.
func answer(t *testing.T, s *session.Session, line string) string {
	t.Helper()
	a, e := s.Do(line)
	if e != api.OK {
		t.Fatalf("Do(%q): error %d", line, e)
	}
	return cited.ReplaceAllString(a, "[X]")
}

// began returns a session behind some lines, none of which is refused.
func began(t *testing.T, lines ...string) *session.Session {
	t.Helper()
	s := session.New()
	for _, l := range lines {
		answer(t, s, l)
	}
	return s
}

// expect checks the answers to lines, which stand in pairs with them; error and a number are that of a line that is refused.
func expect(t *testing.T, s *session.Session, pairs ...[2]string) {
	t.Helper()
	for _, x := range pairs {
		a, e := s.Do(x[0])
		if e != api.OK {
			if a != "" {
				t.Errorf("Do(%.200q) answers %q, with the error %d", x[0], a, e)
			}
			a = fmt.Sprint("error ", int(e))
		}
		if a = cited.ReplaceAllString(a, "[X]"); a != x[1] {
			t.Errorf("Do(%.200q):\n%q, not\n%q", x[0], a, x[1])
		}
	}
}

// last returns the evidence that a session has last.
func last(t *testing.T, s *session.Session) api.Evidence {
	t.Helper()
	l := s.Evidence()
	if len(l) == 0 {
		t.Fatal("no evidence")
	}
	return l[len(l)-1]
}

// verified checks what Verify says of an evidence.
func verified(t *testing.T, about string, x api.Evidence, want api.Errno) {
	t.Helper()
	if e := session.Verify(x); e != want {
		t.Errorf("%s: Verify returns %d, not %d, for %+v", about, e, want, x)
	}
}

func sameLog(a, b api.Log) bool {
	return slices.Equal(a.Picks, b.Picks) && slices.Equal(a.Inputs, b.Inputs) && slices.Equal(a.Clocks, b.Clocks) && a.Steps == b.Steps && a.Sum == b.Sum
}

// every returns a session with evidence of every kind, in the order of the kinds.
func every(t *testing.T) []api.Evidence {
	t.Helper()
	s := began(t,
		"program p "+minus,
		"program w "+racing,
		"program b "+bounded,
		"test 2 3 ; 5",
		"test 4 0 ; 4",
		"run r p 99 2 3",
		"why r 0",
		"slice r 0",
		"follow f w 200 ; 0 12 1 5 2 200",
		"race f",
		"shrink m f 200",
		"diagnose p 99 1 1 4 5",
		"repair q p 99 2 0 1",
		"learn p 2 99",
		"run c b 99 1",
		"run d b 99 4",
		"cause c d 2 99",
	)
	kinds := map[api.Proof]api.Evidence{}
	for _, x := range s.Evidence() {
		if _, seen := kinds[x.Kind]; !seen {
			kinds[x.Kind] = x
		}
	}
	var l []api.Evidence
	for k := api.PrRun; k <= api.PrRepair; k++ {
		x, found := kinds[k]
		if !found {
			t.Fatalf("no evidence of kind %d", k)
		}
		l = append(l, x)
	}
	return l
}

// oneLine writes a text that has several lines on one.
func oneLine(text string) string { return strings.Join(strings.Fields(text), " ") }

// sameProgram compares programs, those without functions included.
func sameProgram(a, b api.Program) bool { return lang.Same(a, b) }

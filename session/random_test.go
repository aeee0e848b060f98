package session_test

import (
	"fmt"
	"math/rand"
	"slices"
	"strings"
	"testing"

	"sleuth/api"
	"sleuth/machine"
	"sleuth/session"
)

// writer writes random lines of a session that a model does, too.
type writer struct {
	*maker
	m *model
}

// name returns a name of the session, mostly one of a program or of a run, as it is asked for.
func (w *writer) name(run bool) string {
	var l []string
	for _, s := range w.m.names {
		if _, isRun := w.m.logs[s]; isRun == run {
			l = append(l, s)
		}
	}
	if len(l) == 0 || w.Intn(40) == 0 {
		return w.of("p0", "r0", "x")
	}
	return w.of(l...)
}

// fresh returns a name that is mostly new.
func (w *writer) fresh() string {
	if len(w.m.names) > 0 && w.Intn(30) == 0 {
		return w.of(w.m.names...)
	}
	return fmt.Sprint(w.of("p", "r", "some_Name"), len(w.m.names))
}

// list returns some numbers, each behind a blank.
func (w *writer) list(most, from, below int) string {
	s := ""
	for range w.Intn(most + 1) {
		s += fmt.Sprint(" ", from+w.Intn(below-from))
	}
	return s
}

// fuel returns a fuel that is mostly enough.
func (w *writer) fuel() int {
	if w.Intn(25) == 0 {
		return []int{65536, 65537, 0, 1 << 30}[w.Intn(4)]
	}
	return 30 + w.Intn(300)
}

// partner returns a run of the program of another one that came to another outcome, if there is one.
func (w *writer) partner(run string) string {
	for _, s := range w.m.names {
		if o, isRun := w.m.outcomes[s]; isRun && w.m.of[s] == w.m.of[run] && outcomeText(o) != outcomeText(w.m.outcomes[run]) {
			return s
		}
	}
	return w.name(true)
}

func (w *writer) program() string {
	switch w.Intn(6) {
	case 0:
		return minus
	case 1:
		return racing
	case 2:
		return bounded
	}
	w.closures, w.threads = w.Intn(2) == 0, w.Intn(2) == 0
	w.names, w.visible, w.calls = 0, nil, false
	return w.text(8)
}

// test returns a test that some program meets, mostly.
func (w *writer) test() string {
	inputs := w.list(3, -1, 6)
	p := w.m.programs[w.name(false)]
	o, _ := machine.Run(p, api.Given{Inputs: numbersOf(inputs)}, 300)
	if w.Intn(3) == 0 {
		o.Out = append(o.Out, int64(w.Intn(3)))
	}
	return "test" + inputs + " ;" + listed(o.Out)
}

func numbersOf(text string) []int64 {
	l, _ := within(text, false)
	return l
}

// domain returns numbers that mostly ascend.
func (w *writer) domain() string {
	if w.Intn(20) == 0 {
		return " 2 1"
	}
	return w.of("", " 0 1", " 1", " -1 2", " 0 1 2", " 5")
}

func (w *writer) line() string {
	p, r, q := w.name(false), w.name(true), w.fresh()
	switch w.Intn(18) {
	case 0, 1:
		return "program " + q + " " + w.program()
	case 2, 3:
		return w.test()
	case 4:
		return fmt.Sprint("run ", q, " ", p, " ", w.fuel(), w.list(3, -1, 6))
	case 5:
		picks := ""
		for range w.Intn(12) {
			picks += fmt.Sprint(" ", w.Intn(4), " ", w.Intn(12))
		}
		return fmt.Sprint("follow ", q, " ", p, " ", w.fuel(), w.list(3, -1, 6), " ;", picks)
	case 6:
		return fmt.Sprint("why ", r, " ", w.Intn(3))
	case 7:
		return fmt.Sprint("slice ", r, " ", w.Intn(3))
	case 8:
		return "race " + r
	case 9:
		return fmt.Sprint("shrink ", q, " ", r, " ", w.fuel())
	case 10:
		return fmt.Sprint("rank ", p, " ", w.Intn(18), " ", w.fuel())
	case 11:
		return fmt.Sprint("diagnose ", p, " ", w.fuel()%400, " ", w.Intn(3), " ", w.Intn(3), w.domain())
	case 12:
		return fmt.Sprint("learn ", p, " ", w.Intn(5), " ", w.fuel())
	case 13:
		return fmt.Sprint("cause ", r, " ", w.partner(r), " ", w.Intn(1+min(w.m.logs[r].Steps, 30)), " ", w.fuel())
	case 14, 15:
		return fmt.Sprint("run ", q, " ", w.m.of[r], " ", w.fuel(), w.list(3, -1, 6))
	case 16:
		return fmt.Sprint("repair ", q, " ", p, " ", w.fuel()%400, " ", w.Intn(3), w.domain())
	}
	return w.of("verify", "", "# a remark", "#")
}

// spoiled returns a line that is changed somewhere, and so mostly of no form.
func (w *writer) spoiled(line string) string {
	l := strings.Split(line, " ")
	i := w.Intn(len(l))
	junk := w.of("", "01", "-0", "+1", "1.", "x", ";", "if", "-", "9223372036854775808", "4294967296", "-1", "X", "\t", "#", "verify", "averylongnamethat1")
	switch w.Intn(4) {
	case 0:
		l = slices.Insert(l, i, junk)
	case 1:
		l = slices.Delete(l, i, i+1)
	case 2:
		l[i] = junk
	default:
		l = append(l, junk)
	}
	return strings.Join(l, " ")
}

// sessions calls a function with random lines of sessions, and what a model answers to each: mostly such as are not refused.
func sessions(t *testing.T, count, length int, each func(seed int, lines, answers []string, m *model)) {
	t.Helper()
	for seed := range count {
		w := &writer{&maker{Rand: rand.New(rand.NewSource(int64(seed)))}, newModel()}
		var lines, answers []string
		for range length {
			line := w.line()
			if w.Intn(8) == 0 {
				line = w.spoiled(line)
			}
			a, e := w.m.do(line)
			if e != api.OK {
				a = fmt.Sprint("error ", int(e))
			}
			lines, answers = append(lines, line), append(answers, a)
		}
		each(seed, lines, answers, w.m)
		if t.Failed() {
			t.Fatalf("seed %d: %s", seed, strings.Join(lines, "\n"))
		}
	}
}

// P10.2, P10.3, P10.4, P0.7, P0.8: sessions answer what the chapter says, line by line; what they cite are the digests of their evidence, in order, and it holds.
func TestSessions(t *testing.T) {
	kinds, errors := map[string]int{}, map[api.Errno]int{}
	sessions(t, 100, 60, func(_ int, lines, answers []string, m *model) {
		s := session.New()
		var digests []string
		for i, line := range lines {
			a, e := s.Do(line)
			if e != api.OK {
				a = fmt.Sprint("error ", int(e))
			}
			if a != answers[i] {
				t.Errorf("line %d, %q: %q, not %q", i, line, a, answers[i])
				return
			}
			if d := cited.FindString(a); d != "" {
				digests = append(digests, d)
			}
			kind, _, _ := strings.Cut(line, " ")
			kinds[fmt.Sprint(kind, " ", e == api.OK && !strings.HasSuffix(a, "none"))]++
			errors[e]++
		}
		sameSession(t, s, m)
		evidence := s.Evidence()
		for i, x := range evidence {
			verified(t, "evidence of a session", x, api.OK)
			if e := wanted(x); e != api.OK {
				t.Errorf("error %d: %+v does not hold", e, x)
			}
			if i >= len(digests) || digests[i] != fmt.Sprintf("[%016x]", session.Digest(x)) {
				t.Error("evidence", i, "is cited as", digests)
			}
		}
		if len(evidence) != len(digests) {
			t.Error(len(evidence), "pieces of evidence,", len(digests), "digests")
		}
	})
	for _, k := range []string{"program", "test", "run", "follow", "why", "slice", "race", "shrink", "rank", "diagnose", "learn", "cause", "repair"} {
		if kinds[k+" true"] < 15 || kinds[k+" false"] < 15 {
			t.Error("too few cases of", k, kinds[k+" true"], kinds[k+" false"])
		}
	}
	for _, e := range []api.Errno{api.ErrArg, api.ErrForm, api.ErrTwice, api.ErrNone, api.ErrClash} {
		if errors[e] == 0 {
			t.Error("no case of error", e)
		}
	}
}

// sameSession checks that a session has what a model has.
func sameSession(t *testing.T, s *session.Session, m *model) {
	t.Helper()
	if !slices.EqualFunc(s.Evidence(), m.evidence, session.Same) {
		t.Errorf("evidence %v, not %v", s.Evidence(), m.evidence)
	}
	if !slices.Equal(s.Names(), m.names) {
		t.Error("names", s.Names(), "not", m.names)
	}
	for _, name := range append(slices.Clone(m.names), "none", "") {
		want, isProgram := m.programs[name]
		if p, found := s.Program(name); found != isProgram || !sameProgram(p, want) {
			t.Errorf("Program(%q): %v %t", name, p, found)
		}
		log, isRun := m.logs[name]
		if l, found := s.Log(name); found != isRun || !sameLog(l, log) {
			t.Errorf("Log(%q): %v %t", name, l, found)
		}
	}
}

// P10.2: Run does the same as Do, line by line.
func TestRun(t *testing.T) {
	sessions(t, 40, 40, func(seed int, lines, answers []string, m *model) {
		text := strings.Join(lines, "\n")
		if seed%2 == 0 || lines[len(lines)-1] == "" {
			text += "\n"
		}
		l, x, e := session.Run(text)
		if e != api.OK || !slices.Equal(l, answers) || !slices.EqualFunc(x, m.evidence, session.Same) {
			t.Errorf("Run: error %d, %d answers, %d pieces of evidence:\n%q, not\n%q", e, len(l), len(x), l, answers)
		}
	})
}

// P10.6: a session without the lines that are refused answers the others in the same way.
func TestRefused(t *testing.T) {
	refused := 0
	sessions(t, 40, 60, func(_ int, lines, answers []string, m *model) {
		s := session.New()
		for i, line := range lines {
			if strings.HasPrefix(answers[i], "error") {
				refused++
				continue
			}
			if a, e := s.Do(line); e != api.OK || a != answers[i] {
				t.Errorf("line %d, %q: %q, error %d, not %q", i, line, a, e, answers[i])
			}
		}
		sameSession(t, s, m)
	})
	if refused < 200 {
		t.Error("too few lines are refused:", refused)
	}
}

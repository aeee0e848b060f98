package session_test

import (
	"math/rand"
	"reflect"
	"slices"
	"strings"
	"testing"

	"sleuth/api"
	"sleuth/lang"
	"sleuth/session"
)

// P10.2, R3: sessions that New did not make have nothing and do nothing.
func TestNoSession(t *testing.T) {
	original := began(t, "program p "+minus, "run r p 99 2 3", "learn p 1 99")
	copied := *original
	for _, s := range []*session.Session{nil, {}, new(session.Session), &copied} {
		for _, line := range []string{"", "#", "verify", "x", "program q " + minus, "run q p 99", "test ;", strings.Repeat("x", api.MaxText+1)} {
			if a, e := s.Do(line); a != "" || e != api.ErrNil {
				t.Errorf("Do(%.20q): %q, error %d", line, a, e)
			}
		}
		if l := s.Names(); len(l) > 0 {
			t.Error(l)
		}
		if l := s.Evidence(); len(l) > 0 {
			t.Error(l)
		}
		if p, found := s.Program("p"); found || len(p.Funcs) > 0 {
			t.Error(p, found)
		}
		if l, found := s.Log("r"); found || !sameLog(l, api.Log{}) {
			t.Error(l, found)
		}
	}
	if l := original.Names(); !slices.Equal(l, []string{"p", "r"}) || len(original.Evidence()) != 2 {
		t.Error(l)
	}
}

// P10.2: a session without anything, and names of something else.
func TestEmptySession(t *testing.T) {
	s := session.New()
	if len(s.Names()) > 0 || len(s.Evidence()) > 0 {
		t.Error(s.Names(), s.Evidence())
	}
	answer(t, s, "program p "+minus)
	answer(t, s, "run r p 99 2 3")
	for _, name := range []string{"", "q", "P", "r", "p "} {
		if p, found := s.Program(name); found || len(p.Funcs) > 0 {
			t.Error(name, p)
		}
	}
	for _, name := range []string{"", "q", "R", "p", "r "} {
		if l, found := s.Log(name); found || !sameLog(l, api.Log{}) {
			t.Error(name, l)
		}
	}
}

// P10.2: two sessions know nothing of each other.
func TestTwoSessions(t *testing.T) {
	a, b := session.New(), session.New()
	expect(t, a, [2]string{"program p " + minus, answer(t, b, "program p "+minus)}, [2]string{"test ;", "test 1"})
	expect(t, b, [2]string{"test ;", "test 1"}, [2]string{"run a p 99", answer(t, a, "run a p 99")}, [2]string{"verify", "verified 1"}, [2]string{"run r p 99", "run r: end 3 fault 8 line 0 steps 1 out [X]"})
	expect(t, a, [2]string{"why r 0", "error 7"}, [2]string{"verify", "verified 1"})
}

// R3: nil lists and empty ones are the same evidence.
func TestEmptyLists(t *testing.T) {
	for _, x := range every(t) {
		y := cloned(x)
		if !session.Same(x, y) || session.Digest(x) != session.Digest(y) {
			t.Errorf("%+v is another one with empty lists", x)
		}
		verified(t, "empty lists", y, api.OK)
		verified(t, "nil lists", cloned(y), api.OK)
	}
	a := api.Evidence{Witness: [][]int64{nil}, Tests: []api.Test{{}}, Patch: api.Patch{Edits: []api.Edit{{With: []api.Node{{}}}}}}
	b := cloned(a)
	if !session.Same(a, b) || !session.Same(api.Evidence{}, cloned(api.Evidence{})) {
		t.Error(a, b)
	}
}

// spoil overwrites all numbers and strings in a value, and what stands behind its lists.
func spoil(v reflect.Value) {
	switch v.Kind() {
	case reflect.Struct:
		for i := range v.NumField() {
			spoil(v.Field(i))
		}
	case reflect.Slice:
		l := v.Slice3(0, v.Cap(), v.Cap())
		for i := range l.Len() {
			spoil(l.Index(i))
		}
	default:
		shift(v)
	}
}

// R4: what a session returns is new memory; it may be overwritten.
func TestMemory(t *testing.T) {
	sessions(t, 12, 70, func(_ int, lines, answers []string, m *model) {
		s := session.New()
		for i, line := range lines {
			a, e := s.Do(line)
			if e == api.OK && a != answers[i] {
				t.Errorf("%q: %q, not %q", line, a, answers[i])
			}
			l := s.Evidence()
			spoil(reflect.ValueOf(l))
			names := s.Names()
			spoil(reflect.ValueOf(names))
			for _, name := range m.names {
				p, _ := s.Program(name)
				spoil(reflect.ValueOf(&p).Elem())
				log, _ := s.Log(name)
				spoil(reflect.ValueOf(&log).Elem())
			}
		}
		sameSession(t, s, m)
		_, x, _ := session.Run(strings.Join(lines, "\n"))
		for i := range x {
			spoil(reflect.ValueOf(&x[i]).Elem())
			if i+1 < len(x) && !session.Same(x[i+1], m.evidence[i+1]) {
				t.Error("two pieces of evidence share memory", i)
			}
		}
		apart(t, s.Evidence())
	})
}

// apart checks that no two lists of a result share memory.
func apart(t *testing.T, l []api.Evidence) {
	t.Helper()
	seen := map[uintptr]bool{}
	spots(reflect.ValueOf(l), func(v reflect.Value) {
		if v.Kind() == reflect.Slice && v.Cap() > 0 {
			if seen[v.Pointer()] {
				t.Error("two lists share memory:", v)
			}
			seen[v.Pointer()] = true
		}
	})
}

// P10.1, R4: the bytes of an evidence are its own.
func TestBytesMemory(t *testing.T) {
	for _, x := range every(t) {
		a := session.Bytes(x)
		want := slices.Clone(a)
		for i := range a {
			a[i]++
		}
		if !slices.Equal(session.Bytes(x), want) {
			t.Error("Bytes returns what it returned before")
		}
	}
}

// P0.1: any lines, and any evidence.
func TestJunk(t *testing.T) {
	r := rand.New(rand.NewSource(4))
	words := append(strings.Fields("program test run follow why slice race shrink rank diagnose learn cause repair verify p q r s ; ; 0 1 2 -1 99 65536 2147483647 9223372036854775807 # if"), "", "\x00", "\xff", minus, racing, "fun main() {}")
	s := began(t, "program p "+minus, "run r p 99 2 3", "test 2 3 ; 5")
	for range 4000 {
		l := []string{words[r.Intn(len(words))]}
		for range r.Intn(7) {
			l = append(l, words[r.Intn(len(words))])
		}
		if line := strings.Join(l, " "); l[0] != "diagnose" { // which could take very long
			s.Do(line)
		}
	}
	for _, x := range s.Evidence() {
		verified(t, "behind junk", x, api.OK)
	}
	pieces := every(t)
	for range 4000 {
		x := randomEvidence(r)
		if x.Kind = api.Proof(r.Intn(11)); r.Intn(4) > 0 {
			x.Program = writtenForm(t, minus)
		}
		if r.Intn(4) > 0 {
			x = mixed(r, x, pieces[r.Intn(len(pieces))])
		}
		if want, e := wanted(x), session.Verify(x); e != want {
			t.Fatalf("Verify(%+v) returns %d, not %d", x, e, want)
		}
	}
}

// mixed returns an evidence with some fields of another one.
func mixed(r *rand.Rand, x, other api.Evidence) api.Evidence {
	y := cloned(other)
	to, from := reflect.ValueOf(&y).Elem(), reflect.ValueOf(x)
	for range r.Intn(3) {
		i := r.Intn(to.NumField())
		to.Field(i).Set(from.Field(i))
	}
	return y
}

// P0.1: numbers at the limits of their range.
func TestGreatNumbers(t *testing.T) {
	great := []int64{-1 << 63, 1<<63 - 1, 1 << 32, 1<<32 + 1, -1, 65536, 65537, 2147483647, -1<<63 + 1}
	for _, x := range every(t) {
		for i := range x.Numbers {
			for _, n := range great {
				y := cloned(x)
				y.Numbers[i] = n
				verified(t, "a great number", y, wanted(y))
			}
		}
	}
}

// P0.1, P10.1: nodes within nodes, and long lists.
func TestGreatEvidence(t *testing.T) {
	n := api.Node{Kind: api.KiUnary, Text: "-", Subs: []api.Node{{Kind: api.KiNum}}}
	for range 3000 {
		n = api.Node{Kind: api.KiUnary, Text: "-", Subs: []api.Node{n}}
	}
	x := kindOf(t, api.PrRepair)
	x.Patch.Edits[0].With = []api.Node{{Kind: api.KiPrint, Subs: []api.Node{n}}}
	verified(t, "deep nodes", x, api.ErrState)
	if !session.Same(x, cloned(x)) {
		t.Error("deep nodes")
	}
	long := make([]int64, 70000)
	y := kindOf(t, api.PrRun)
	y.Numbers = append(y.Numbers, long...)
	verified(t, "many numbers", y, api.ErrState)
	y = kindOf(t, api.PrRun)
	y.Logs[0].Picks = make([]api.Pick, 70000)
	verified(t, "many picks", y, api.ErrState)
	if p, found := began(t, "program p "+minus).Program("p"); !found || lang.Count(p) != 3 {
		t.Error(p)
	}
}

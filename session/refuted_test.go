package session

import (
	"errors"
	"testing"

	"sleuth/api"
)

// P10.2: verify tells the first evidence that does not hold. (By P10.3 no line makes one.)
func TestRefuted(t *testing.T) {
	s := New()
	for _, line := range []string{"program p fun main() { print input; }", "run r p 99 4", "run s p 99 5", "why r 0"} {
		if _, e := s.Do(line); e != api.OK {
			t.Fatal(line, e)
		}
	}
	for _, x := range []struct {
		spoiled int
		want    string
	}{{2, "refuted 2"}, {1, "refuted 1"}, {0, "refuted 0"}} {
		s.evidence[x.spoiled].Numbers[0]++
		if a, e := s.Do("verify"); a != x.want || e != api.OK {
			t.Error(a, e)
		}
	}
}

// P0.1, P10.2: a line that is left in another way than by being refused returns an error, too.
func TestErrno(t *testing.T) {
	if e := errno(errors.New("another")); e != api.ErrState {
		t.Error(e)
	}
	r := refusal{errno: api.ErrTwice, rest: "99"}
	if e := errno(r); e != api.ErrTwice || r.Error() != `error 6 ahead of "99"` {
		t.Error(e, r)
	}
	if e := errno(errors.Join(errors.New("another"), r)); e != api.ErrTwice {
		t.Error(e)
	}
}

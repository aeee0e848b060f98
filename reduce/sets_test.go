package reduce_test

import (
	"fmt"
	"slices"
	"strings"
	"testing"

	"sleuth/api"
	"sleuth/reduce"
)

// P6.1: the chunks of a list.
func TestChunks(t *testing.T) {
	for _, c := range []struct {
		l    string
		n    int
		want string
	}{
		{"1 2 3 4 5", 2, "1 2, 3 4 5"},
		{"1 2 3 4 5", 3, "1, 2 3, 4 5"},
		{"1 2 3 4 5", 4, "1, 2, 3, 4 5"},
		{"1 2 3 4 5", 5, "1, 2, 3, 4, 5"},
		{"1 2 3 4 5", 6, "1, 2, 3, 4, 5"},
		{"1 2 3 4 5", 1 << 62, "1, 2, 3, 4, 5"},
		{"1 2 3 4 5", 1, "1 2 3 4 5"},
		{"1 2 3 4 5", 0, "1 2 3 4 5"},
		{"1 2 3 4 5", -1 << 63, "1 2 3 4 5"},
		{"9 -7 9 9", 2, "9 -7, 9 9"},
		{"4", 1, "4"},
		{"4", 2, "4"},
	} {
		var want [][]int
		for _, s := range strings.Split(c.want, ",") {
			want = append(want, numbers(s))
		}
		if got := reduce.Chunks(numbers(c.l), c.n); !sameLists(got, want) {
			t.Errorf("Chunks(%s, %d): %v, want %v", c.l, c.n, got, want)
		}
	}
	for n := -2; n < 4; n++ {
		if l := reduce.Chunks(nil, n); len(l) != 0 {
			t.Errorf("Chunks(nil, %d): %v", n, l)
		}
	}
	for size := range 20 {
		for n := 1; n <= size; n++ {
			l := reduce.Chunks(until(size), n)
			if len(l) != n || !slices.Equal(slices.Concat(l...), until(size)) {
				t.Fatalf("Chunks(%d items, %d): %v", size, n, l)
			}
			for k, chunk := range l {
				if chunk[0] != k*size/n {
					t.Errorf("Chunks(%d items, %d): chunk %d is %v", size, n, k, chunk)
				}
			}
		}
	}
}

// walk goes a way of questions, each followed by the letter of its answer, to a result (=) or an error (!). The search tells, as a text, how far it has come.
func walk(t *testing.T, name string, search func([]api.Verdict) string, way string) {
	t.Helper()
	var answers []api.Verdict
	words := strings.Fields(way)
	end := words[len(words)-1]
	for i, w := range words[:len(words)-1] {
		last := len(w) - 1
		if got := search(answers); got != "?"+w[:last] {
			t.Errorf("%s, word %d of %s: %s", name, i, way, got)
			return
		}
		answers = append(answers, answersIn(w[last:])...)
	}
	if got := search(answers); got != end {
		t.Errorf("%s, at the end of %s: %s", name, way, got)
	}
	if end[0] == '=' {
		end = "!8"
	}
	for range 3 {
		answers = append(answers, api.VePass)
		if got := search(answers); got != end {
			t.Errorf("%s, behind the end of %s: %s", name, way, got)
		}
	}
}

// told writes how far a search for sets has come, with a digit for each element.
func (s setSearch) told(answers []api.Verdict) string {
	q, e := s(answers)
	switch {
	case e != api.OK:
		if !isZero(q) {
			return fmt.Sprint("an error with ", q)
		}
		return fmt.Sprint("!", int(e))
	case q.Done && len(q.Pass) > 0:
		return "=" + digits(q.Pass) + "<" + digits(q.Kept)
	case q.Done:
		return "=" + digits(q.Kept)
	}
	return "?" + digits(q.Ask)
}

func digits(l []int) string {
	s := ""
	for _, n := range l {
		s += fmt.Sprint(n)
	}
	return s
}

func isZero(q api.Quest) bool { return !q.Done && len(q.Ask)+len(q.Kept)+len(q.Pass) == 0 }

// P6.1: List goes on as its section says, to its end.
func TestListWays(t *testing.T) {
	for _, c := range []struct {
		n   int
		way string
	}{
		{-5, "f ="}, {-1 << 63, "p !7"}, {0, "f ="}, {0, "p !7"}, {0, "u !7"},
		{1, "0f f ="}, {1, "0f p =0"}, {1, "0f u =0"}, {1, "0p !7"}, {1, "0u !7"},
		{2, "01f 0p 1p =01"}, {2, "01f 0u 1u =01"}, {2, "01f 0f p =0"}, {2, "01f 0f f ="}, {2, "01f 0p 1f u =1"}, {2, "01f 0p 1f f ="}, {2, "01p !7"},
		{3, "012f 0p 12f 1p 2p =12"}, {3, "012f 0f p =0"}, {3, "012f 0p 12p 1p 2p 02p 01p =012"}, {3, "012f 0p 12p 1p 2p 02f =02"}, {3, "012f 0u 12u 1u 2u 02u 01f =01"},
		{4, "0123f 01p 23p 0p 1f p =1"},
		{4, "0123f 01p 23p 0p 1p 2p 3p 123p 023p 013p 012p =0123"},
		{4, "0123f 01p 23p 0p 1p 2p 3p 123p 023f 03p 02p =023"}, // the chunks 0, 2 and 3 were asked before, and 23 as well
		{4, "0123f 01p 23p 0p 1p 2p 3p 123f 13f =13"},           // then the chunks of 13 were asked before
		{4, "0123f 01f 0p 1p =01"},
		{5, "01234f 01p 234p 0p 1p 2p 34p 1234p 0234f 034f 3p 4p 04p 03p =034"},
		{8, "01234567f 0123p 4567f 45p 67f 6p 7p =67"},
	} {
		walk(t, fmt.Sprintf("List(%d)", c.n), list(c.n).told, c.way)
	}
}

// P6.1: Counted goes on as its section says, to its end.
func TestCountedWays(t *testing.T) {
	for _, c := range []struct {
		n, start int
		way      string
	}{
		{-1, 3, "f ="}, {0, 3, "f ="}, {0, 3, "p !7"}, {0, 1, "u !7"}, {1, 1, "0f p =0"}, {1, 1, "0f u =0"}, {1, 1, "0f f ="}, {1, 1, "0p !7"},
		{2, -3, "01f 1p 0p =01"}, {2, 0, "01f 1p 0p =01"}, {2, 1, "01f 1f f ="},
		{2, api.MaxItems, "01f p 1p 0p =01"}, {2, 1 << 62, "01f p 1p 0p =01"},
		{2, 2, "01f p 1f =1"}, // the empty set was asked
		{2, 2, "01f p 1p 0f =0"},
		{3, 1, "012f 12p 02f 2p 0p =02"}, {3, 1, "012f 12f 2p 1p =12"}, {3, 1, "012f 12p 02p 01f 1p 0p =01"}, {3, 1, "012f 12u 02u 01u =012"},
		{3, 3, "012f p 12p 02p 01p =012"}, {3, 2, "012f 2p 01f 1p 0p =01"},
		{4, 2, "0123f 23p 01f 1f p =1"},
		{4, 4, "0123f p 23p 01p 123p 023f 03p 02p =023"},
		{5, 3, "01234f 34p 012f 12p 02p 01p =012"},
		{7, 6, "0123456f 6p 012345f 345p 012p 12345p 02345p 01345p 01245p 01235p 01234p =012345"},
	} {
		walk(t, fmt.Sprintf("Counted(%d, %d)", c.n, c.start), counted(c.n, c.start).told, c.way)
	}
}

// P6.1: Removable asks for each element of a set.
func TestRemovableWays(t *testing.T) {
	for _, c := range []struct{ kept, way string }{
		{"", "="}, {"7", "p ="}, {"7", "u ="}, {"7", "f =7"},
		{"2 5 9", "59p 29f =5"}, {"2 5 9", "59f =2"}, {"2 5 9", "59p 29p 25p ="}, {"2 5 9", "59u 29u 25f =9"},
		{"0 255", "255p 0p ="},
	} {
		walk(t, fmt.Sprintf("Removable(%s)", c.kept), removable(numbers(c.kept)).told, c.way)
	}
	if q, e := reduce.Removable(nil, answersIn("p")); e != api.ErrState || !isZero(q) {
		t.Errorf("Removable of nothing, with an answer: error %d, %v", e, q)
	}
}

// P6.1: Difference goes on as its section says, to its end.
func TestDifferenceWays(t *testing.T) {
	for _, c := range []struct {
		n   int
		way string
	}{
		{-1, "p !7"}, {0, "p !7"}, {0, "f !7"}, {0, "u !7"}, // there is one candidate only
		{1, "p 0f =0"}, {1, "p 0p !7"}, {1, "p 0u !7"}, {1, "f !7"}, {1, "u !7"},
		{2, "p 01f 0f 1p =0"}, {2, "p 01f 0f 1f =0"}, {2, "p 01f 0p 1p =1<01"}, {2, "p 01f 0u 1p =1<01"},
		{2, "p 01f 0p 1u =0<01"}, {2, "p 01f 0p 1f =0<01"}, {2, "p 01f 0u 1f =1"}, {2, "p 01f 0u 1u =01"},
		{3, "p 012f 0u 12u 1u 02u 2u 01u =012"}, {3, "p 012f 0u 12u 1p 02u 01f =1<01"},
		{3, "p 012f 0p 12u 01u 02u =0<012"},
		{4, "p 0123f 01u 23u 0u 123f 1u 2p 13u 12f =2<12"},
	} {
		walk(t, fmt.Sprintf("Difference(%d)", c.n), difference(c.n).told, c.way)
	}
}

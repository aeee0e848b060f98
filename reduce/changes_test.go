package reduce_test

import (
	"fmt"
	"math/rand"
	"slices"
	"testing"

	"sleuth/api"
	"sleuth/reduce"
)

// P6.5: the first error of what changes need.
func TestCheckNeeds(t *testing.T) {
	for i, c := range []struct {
		needs [][]int
		want  api.Errno
	}{
		{nil, api.OK},
		{[][]int{nil}, api.OK},
		{[][]int{{1}, {0}}, api.OK}, // one another
		{[][]int{{1, 2}, nil, {0, 1}}, api.OK},
		{[][]int{{0}}, api.ErrArg},
		{[][]int{{1}}, api.ErrArg},
		{[][]int{nil, {-1}}, api.ErrArg},
		{[][]int{nil, {0, 1}}, api.ErrArg},
		{[][]int{{1, 1}, nil}, api.ErrArg},
		{[][]int{{2, 1}, nil, nil}, api.ErrArg},
		{[][]int{{1, 3}, nil, nil}, api.ErrArg},
		{[][]int{nil, nil, {0, 1, 1 << 62}}, api.ErrArg},
		{make([][]int, api.MaxItems), api.OK},
		{make([][]int, api.MaxItems+1), api.ErrLimit},
		{slices.Repeat([][]int{{0}}, api.MaxItems+1), api.ErrLimit},
	} {
		if e := reduce.CheckNeeds(c.needs); e != c.want {
			t.Errorf("CheckNeeds, case %d: error %d, want %d", i, e, c.want)
		}
		if c.want == api.OK {
			continue
		}
		// The other functions return it first.
		if l, e := reduce.Close(c.needs, []int{-1}); e != c.want || len(l) > 0 {
			t.Errorf("Close, case %d: error %d, %v, want %d", i, e, l, c.want)
		}
		if l, e := reduce.Without(c.needs, []int{-1}, 9); e != c.want || len(l) > 0 {
			t.Errorf("Without, case %d: error %d, %v, want %d", i, e, l, c.want)
		}
		if q, e := reduce.Changes(c.needs, answersOf(api.VePass, api.MaxAsks+1)); e != c.want || !isZero(q) {
			t.Errorf("Changes, case %d: error %d, %v, want %d", i, e, q, c.want)
		}
	}
}

// chained is 0, which 1 needs, which 2 needs; 3 alone; and 4 and 5, which need one another, and 0.
func chained() [][]int { return [][]int{nil, {0}, {1}, nil, {0, 5}, {4}} }

// P6.5: the smallest closed set around a set, and the largest one without an element.
func TestClose(t *testing.T) {
	for set, want := range map[string]string{
		"": "", "0": "0", "1": "0 1", "2": "0 1 2", "3": "3", "4": "0 4 5", "5": "0 4 5", "2 3": "0 1 2 3", "1 5": "0 1 4 5", "0 1 2 3 4 5": "0 1 2 3 4 5",
	} {
		if l, e := reduce.Close(chained(), numbers(set)); e != api.OK || !slices.Equal(l, numbers(want)) {
			t.Errorf("Close(%s): error %d, %v, want %s", set, e, l, want)
		}
	}
	for _, c := range []struct {
		set  string
		i    int
		want string
		e    api.Errno
	}{
		{"0 1 2 3 4 5", 0, "3", api.OK}, {"0 1 2 3 4 5", 1, "0 3 4 5", api.OK}, {"0 1 2 3 4 5", 2, "0 1 3 4 5", api.OK},
		{"0 1 2 3 4 5", 3, "0 1 2 4 5", api.OK}, {"0 1 2 3 4 5", 4, "0 1 2 3", api.OK}, {"0 1 2 3 4 5", 5, "0 1 2 3", api.OK},
		{"0 1", 1, "0", api.OK}, {"0 1", 0, "", api.OK}, {"3", 3, "", api.OK},
		{"0 1", 2, "", api.ErrNone}, {"0 1", -1, "", api.ErrNone}, {"0 1", 6, "", api.ErrNone}, {"0 1", 1 << 62, "", api.ErrNone}, {"0 1", -1 << 63, "", api.ErrNone}, {"", 0, "", api.ErrNone},
		{"1", 1, "", api.ErrArg}, {"1", 7, "", api.ErrArg}, {"0 2", 0, "", api.ErrArg}, {"0 4", 0, "", api.ErrArg}, // not closed
		{"6", 6, "", api.ErrArg}, {"-1", -1, "", api.ErrArg}, {"0 0", 0, "", api.ErrArg}, {"1 0", 0, "", api.ErrArg}, {"0 1 9", 0, "", api.ErrArg},
	} {
		if l, e := reduce.Without(chained(), numbers(c.set), c.i); e != c.e || !slices.Equal(l, numbers(c.want)) {
			t.Errorf("Without(%s; %d): error %d, %v, want %d, %s", c.set, c.i, e, l, c.e, c.want)
		}
		if c.e != api.ErrArg || isWithin(numbers(c.set), until(6)) && slices.IsSorted(numbers(c.set)) && c.set != "0 0" {
			continue
		}
		if l, e := reduce.Close(chained(), numbers(c.set)); e != api.ErrArg || len(l) > 0 {
			t.Errorf("Close(%s): error %d, %v", c.set, e, l)
		}
	}
}

// isClosed reports whether a set has, with each change, what it needs.
func isClosed(needs [][]int, set []int) bool {
	return !slices.ContainsFunc(set, func(i int) bool { return !isWithin(needs[i], set) })
}

// subsets returns all subsets of a set.
func subsets(set []int) [][]int {
	if len(set) == 0 {
		return [][]int{nil}
	}
	var l [][]int
	for _, s := range subsets(set[1:]) {
		l = append(l, s, more(set[:1], s))
	}
	return l
}

// P6.5: of all closed sets, Close returns the smallest one around a set, and Without the largest one in it without an element.
func TestClosedSets(t *testing.T) {
	r := rand.New(rand.NewSource(20))
	for range 800 {
		needs := randomNeeds(r, 1+r.Intn(7))
		all := until(len(needs))
		set := some(r, all, 1+r.Intn(4))
		closed, e := reduce.Close(needs, set)
		if e != api.OK || !isClosed(needs, closed) || !isWithin(set, closed) || !slices.Equal(closed, modelClose(needs, set)) {
			t.Fatalf("Close(%v, %v): error %d, %v", needs, set, e, closed)
		}
		for _, s := range subsets(all) {
			if isClosed(needs, s) && isWithin(set, s) && !isWithin(closed, s) {
				t.Fatalf("Close(%v, %v): %v, and %v is smaller", needs, set, closed, s)
			}
		}
		for _, i := range all {
			without, e := reduce.Without(needs, closed, i)
			if !slices.Contains(closed, i) {
				if e != api.ErrNone || len(without) > 0 {
					t.Fatalf("Without(%v, %v, %d): error %d, %v", needs, closed, i, e, without)
				}
				continue
			}
			if e != api.OK || !isClosed(needs, without) || slices.Contains(without, i) {
				t.Fatalf("Without(%v, %v, %d): error %d, %v", needs, closed, i, e, without)
			}
			for _, s := range subsets(closed) {
				if isClosed(needs, s) && !slices.Contains(s, i) && !isWithin(s, without) {
					t.Fatalf("Without(%v, %v, %d): %v, and %v is larger", needs, closed, i, without, s)
				}
			}
		}
		if !isClosed(needs, set) {
			if l, e := reduce.Without(needs, set, -1); e != api.ErrArg || len(l) > 0 {
				t.Fatalf("Without(%v, %v, -1): error %d, %v", needs, set, e, l)
			}
		}
	}
}

// P6.5: Changes goes on as its section says, question by question.
func TestChangesWays(t *testing.T) {
	for _, c := range []struct {
		needs [][]int
		way   string
	}{
		{nil, "f ="}, {nil, "p !7"}, {nil, "u !7"},
		{[][]int{nil}, "0f p =0"}, {[][]int{nil}, "0f f ="}, {[][]int{nil}, "0u !7"},
		{[][]int{nil, nil}, "01f 1p 0p =01"}, {[][]int{nil, nil}, "01f 1f p =1"}, {[][]int{nil, nil}, "01f 1u 0f p =0"},
		{[][]int{{1}, {0}}, "01f p =01"}, {[][]int{{1}, {0}}, "01f f ="}, // without 1 it is the same candidate
		{[][]int{nil, {0}}, "01f p 0f =0"}, {[][]int{nil, {0}}, "01f p 0p =01"},
		{chained(), "012345f 3p 0345p 01345f 0145p 013p =01345"}, // 3 and 0345 were asked, and 4 and 5 need one another
	} {
		walk(t, fmt.Sprintf("Changes(%v)", c.needs), changes(c.needs).told, c.way)
	}
}

// P6.5, P0.5: the result of Changes is closed and fails, and without any element of it, it does not.
func TestChangesMinimal(t *testing.T) {
	r := rand.New(rand.NewSource(21))
	for range 1500 {
		needs := randomNeeds(r, r.Intn(12))
		v := randomVerdicts(r)
		v.known[fmt.Sprint(until(len(needs)))] = api.VeFail
		got := runSets(t, changes(needs), v.onSet)
		end := got.end.Kept
		if answer, asked := got.verdictOn(end); got.e != api.OK || !asked || answer != api.VeFail || !isClosed(needs, end) {
			t.Fatalf("Changes(%v): error %d, %v", needs, got.e, got.end)
		}
		for _, i := range end {
			without, _ := reduce.Without(needs, end, i)
			if answer, asked := got.verdictOn(without); !asked || answer == api.VeFail {
				t.Fatalf("Changes(%v) ends with %v: %v, %d of %v", needs, end, asked, answer, without)
			}
		}
		for _, c := range got.asked {
			if !isClosed(needs, c) {
				t.Fatalf("Changes(%v) asks %v", needs, c)
			}
		}
	}
}

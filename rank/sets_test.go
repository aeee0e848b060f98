package rank_test

import (
	"math/rand"
	"slices"
	"testing"

	"sleuth/api"
	"sleuth/rank"
)

// P7.2: which lists of sets there are; the functions of sets return the error ahead of all others.
func TestCheckSets(t *testing.T) {
	for _, l := range [][][]int{nil, {nil}, {{}}, {{0}}, {{255}}, {until(256)}, {{0, 255}, {0, 255}, nil}, slices.Repeat([][]int{{1, 2}}, api.MaxSets)} {
		if e := rank.CheckSets(l); e != api.OK {
			t.Errorf("CheckSets(%v): error %d", l, e)
		}
	}
	for want, lists := range brokenSets() {
		for i, l := range lists {
			if e := rank.CheckSets(l); e != want {
				t.Errorf("CheckSets, case %d: error %d, want %d", i, e, want)
			}
			if s, e := rank.Smallest(l); e != want || len(s) > 0 {
				t.Errorf("Smallest, case %d: error %d, %v, want %d", i, e, s, want)
			}
			for _, size := range []int{-1, 1, 4} {
				if s, e := rank.Hit(l, size); e != want || len(s) > 0 {
					t.Errorf("Hit, case %d: error %d, %v, want %d", i, e, s, want)
				}
			}
			if n, e := rank.Blame(spectrum(1, "p 0"), l); e != want || len(n) > 0 {
				t.Errorf("Blame, case %d: error %d, %v, want %d", i, e, n, want)
			}
		}
	}
}

// P7.2: of sets that are within one another the smallest ones, each once, in the order of sets.
func TestSmallest(t *testing.T) {
	for _, c := range []struct {
		of   [][]int
		want [][]int
	}{
		{nil, nil}, {[][]int{nil}, [][]int{nil}}, {[][]int{{3}, nil, {1}}, [][]int{nil}}, {[][]int{nil, {}}, [][]int{nil}},
		{sets("1 2 3,2 3,4,2 3"), sets("4,2 3")}, {sets("2 3,1 4,1 3,0 9,5"), sets("5,0 9,1 3,1 4,2 3")}, {sets("0 1,0 1 2,0 2,1 2"), sets("0 1,0 2,1 2")},
		{sets("1 2 3 4,1 3,2 4 5,5"), sets("5,1 3")}, {sets("1 10,1 9,2"), sets("2,1 9,1 10")}, {sets("7,7,7"), sets("7")}, {sets("0 255,255 "), sets("255")},
	} {
		if l, e := rank.Smallest(c.of); e != api.OK || !sameLists(l, c.want) {
			t.Errorf("Smallest(%v): error %d, %v, want %v", c.of, e, l, c.want)
		}
	}
	r := rand.New(rand.NewSource(8))
	all := subsets(until(6), 6)
	for range 500 {
		var of [][]int
		for range r.Intn(10) {
			of = append(of, some(r, until(6), 1+r.Intn(3)))
		}
		var want [][]int // all is in the order of sets
		for _, s := range all {
			within := func(x []int) bool { return len(x) < len(s) && isWithin(x, s) }
			if slices.ContainsFunc(of, func(x []int) bool { return slices.Equal(x, s) }) && !slices.ContainsFunc(of, within) {
				want = append(want, s)
			}
		}
		if l, e := rank.Smallest(of); e != api.OK || !sameLists(l, want) {
			t.Fatalf("Smallest(%v): error %d, %v, want %v", of, e, l, want)
		}
	}
}

// P7.2: hitting sets, worked out by hand.
func TestHit(t *testing.T) {
	for _, c := range []struct {
		of   [][]int
		size int
		want [][]int
	}{
		{nil, 0, [][]int{nil}}, {nil, 3, [][]int{nil}}, {[][]int{nil}, 3, nil}, {[][]int{nil}, 0, nil}, {sets("1,,2"), 3, nil},
		{sets("1 2,2 3"), 2, sets("2,1 3")}, {sets("1 2,2 3"), 1, sets("2")}, {sets("1 2,2 3"), 0, nil}, {sets("1 2,2 3"), 3, sets("2,1 3")},
		{sets("1 2,2 3,4"), 3, sets("2 4,1 3 4")}, {sets("0 1,0 2,1 2"), 3, sets("0 1,0 2,1 2")}, {sets("0 1,0 2,1 2"), 1, nil},
		{sets("0,1,2"), 3, sets("0 1 2")}, {sets("0,1,2,3"), 3, nil}, {sets("5,5,5"), 1, sets("5")}, {sets("9 10 255"), 1, sets("9,10,255")},
		{sets("0 1 2,1 2,2"), 3, sets("2")}, {sets("0 3,1 3,2 3"), 3, sets("3,0 1 2")}, {sets("0 3,1 3,2 3"), 2, sets("3")},
	} {
		if l, e := rank.Hit(c.of, c.size); e != api.OK || !sameLists(l, c.want) {
			t.Errorf("Hit(%v, %d): error %d, %v, want %v", c.of, c.size, e, l, c.want)
		}
	}
	for _, c := range []struct {
		size int
		want api.Errno
	}{{-1, api.ErrArg}, {-1 << 63, api.ErrArg}, {4, api.ErrLimit}, {1<<63 - 1, api.ErrLimit}} {
		for _, of := range [][][]int{nil, {nil}, sets("1,2"), {between(0, 17), between(17, 34)}} {
			if l, e := rank.Hit(of, c.size); e != c.want || len(l) > 0 {
				t.Errorf("Hit(%v, %d): error %d, %v, want %d", of, c.size, e, l, c.want)
			}
		}
	}
}

// P7.2: there are at most MaxSets minimal hitting sets; only those of the size count, and each counts once.
func TestHitLimit(t *testing.T) {
	for _, c := range []struct {
		of    [][]int
		size  int
		count int // -1 for too many
	}{
		{[][]int{until(256)}, 1, 256}, {[][]int{until(256)}, 3, 256},
		{[][]int{until(16), between(16, 32)}, 2, 256}, {[][]int{until(16), between(16, 32)}, 3, 256}, {[][]int{until(16), between(16, 33)}, 2, -1}, {[][]int{until(16), between(16, 33)}, 1, 0},
		{[][]int{until(128), between(128, 256)}, 3, -1}, {[][]int{until(85), between(85, 170), between(170, 255)}, 3, -1}, {[][]int{until(85), between(85, 170), between(170, 255)}, 2, 0},
		{[][]int{until(4), between(4, 12), between(12, 20)}, 3, 256}, {[][]int{until(4), between(4, 12), between(12, 20), {0, 5, 13}}, 3, 4*8*8 - 3*7*7},
		{[][]int{until(64), between(64, 128), between(128, 192), between(192, 256)}, 3, 0},
		{append(pairsOf(20), nil), 3, 0}, {pairsOf(4), 3, 4}, {pairsOf(5), 3, 0}, {butOne(23), 2, 253}, {butOne(24), 2, -1}, {butOne(24), 1, 0}, {butOne(256), 3, -1},
	} {
		l, e := rank.Hit(c.of, c.size)
		want := api.OK
		if c.count < 0 {
			c.count, want = 0, api.ErrLimit
		}
		if e != want || len(l) != c.count {
			t.Errorf("Hit of %d sets, up to %d: error %d, %d sets, want %d, %d", len(c.of), c.size, e, len(l), want, c.count)
		}
	}
}

// pairsOf returns all pairs of so many elements: what hits them has all of these but one.
func pairsOf(n int) [][]int {
	var l [][]int
	for i := range n {
		for j := range i {
			l = append(l, []int{j, i})
		}
	}
	return l
}

// butOne returns all sets of so many elements without one: any two elements hit them.
func butOne(n int) [][]int {
	var l [][]int
	for i := range n {
		l = append(l, append(until(i), between(i+1, n)...))
	}
	return l
}

// hits reports whether a set has an element in common with each of some sets.
func hits(set []int, of [][]int) bool {
	return !slices.ContainsFunc(of, func(s []int) bool { return !haveCommon(s, set) })
}

// P7.2, P7.5: of all sets up to the size, Hit returns those that hit all and have no smaller one within them.
func TestRandomHits(t *testing.T) {
	r := rand.New(rand.NewSource(9))
	counts := map[int]int{}
	for range 1500 {
		n := 1 + r.Intn(9)
		var of [][]int
		for range r.Intn(7) {
			if s := some(r, until(n), 1+r.Intn(4)); len(s) > 0 || r.Intn(30) == 0 {
				of = append(of, s)
			}
		}
		size := r.Intn(api.MaxCause + 1)
		var want [][]int
		for _, s := range subsets(until(n), size) {
			if hits(s, of) && !slices.ContainsFunc(want, func(x []int) bool { return isWithin(x, s) }) {
				want = append(want, s)
			}
		}
		counts[len(want)]++
		if l, e := rank.Hit(of, size); e != api.OK || !sameLists(l, want) {
			t.Fatalf("Hit(%v, %d): error %d, %v, want %v", of, size, e, l, want)
		}
	}
	for n := range 6 {
		if counts[n] == 0 {
			t.Errorf("no case with %d sets", n)
		}
	}
}

// P7.5: with many sets of many elements, what Hit returns is minimal, and nothing is missing.
func TestHitComplete(t *testing.T) {
	r := rand.New(rand.NewSource(10))
	for range 12 {
		elements := some(r, until(api.MaxParts), 8)
		var of [][]int
		for range 3 + r.Intn(200) {
			s := some(r, elements, 3)
			for _, x := range elements[:3] {
				if r.Intn(2) == 0 && !slices.Contains(s, x) {
					s = append(s, x)
				}
			}
			if !haveCommon(s, elements[:3]) {
				s = append(s, elements[1])
			}
			slices.Sort(s)
			of = append(of, slices.Compact(s))
		}
		l, e := rank.Hit(of, 3)
		if e == api.ErrLimit {
			continue
		}
		if e != api.OK || len(l) == 0 {
			t.Fatalf("Hit(%v, 3): error %d, %v", of, e, l)
		}
		for _, s := range l {
			if !hits(s, of) {
				t.Fatalf("Hit(%v, 3): %v does not hit all", of, s)
			}
			for i := range s {
				if hits(slices.Concat(s[:i], s[i+1:]), of) {
					t.Fatalf("Hit(%v, 3): %v is not minimal", of, s)
				}
			}
		}
		for _, s := range subsets(elements, 3) {
			if hits(s, of) && !slices.ContainsFunc(l, func(x []int) bool { return isWithin(x, s) }) {
				t.Fatalf("Hit(%v, 3): %v is missing", of, s)
			}
		}
	}
}

// P7.2: conflicts are the smallest sets that failing rows cover, suspects what hits them.
func TestConflicts(t *testing.T) {
	for _, c := range []struct {
		rows      string
		conflicts [][]int
		size      int
		suspects  [][]int
		want      api.Errno
	}{
		{rows: "", size: 2, suspects: [][]int{nil}}, {rows: "p 0 1, p", size: 0, suspects: [][]int{nil}},
		{rows: "f 0 1 3, f 0 1 3, p 0 2", conflicts: sets("0 1 3"), size: 1, suspects: sets("0,1,3")},
		{rows: "f 2 3, p 1, f 0 1 2, f 1 2 3, f 0 1 2 4", conflicts: sets("2 3,0 1 2"), size: 3, suspects: sets("2,0 3,1 3")},
		{rows: "f 2 3, p 1, f 0 1 2, f 1 2 3, f 0 1 2 4", conflicts: sets("2 3,0 1 2"), size: 1, suspects: sets("2")},
		{rows: "f 1, f, p 2", conflicts: [][]int{nil}, size: 3}, // a row that fails and covers nothing
		{rows: "f 1, f 2, f 3, f 4", conflicts: sets("1,2,3,4"), size: 3},
		{rows: "f 1 2", conflicts: sets("1 2"), size: -1, want: api.ErrArg}, {rows: "f 1 2", conflicts: sets("1 2"), size: 4, want: api.ErrLimit},
	} {
		s := spectrum(5, c.rows)
		if l, e := rank.Conflicts(s); e != api.OK || !sameLists(l, c.conflicts) {
			t.Errorf("Conflicts(%s): error %d, %v, want %v", c.rows, e, l, c.conflicts)
		}
		if l, e := rank.Suspects(s, c.size); e != c.want || !sameLists(l, c.suspects) {
			t.Errorf("Suspects(%s, %d): error %d, %v, want %d, %v", c.rows, c.size, e, l, c.want, c.suspects)
		}
	}
	many := api.Spectrum{Parts: 33, Rows: []api.Row{{Hits: until(16), Fail: true}, {Hits: between(16, 33), Fail: true}}}
	if l, e := rank.Suspects(many, 2); e != api.ErrLimit || len(l) > 0 {
		t.Errorf("too many suspects: error %d, %v", e, l)
	}
	r := rand.New(rand.NewSource(11))
	for range 300 {
		s := randomSpectrum(r)
		if s.Parts > 20 {
			continue
		}
		var failing [][]int
		for _, row := range s.Rows {
			if row.Fail {
				failing = append(failing, row.Hits)
			}
		}
		want, _ := rank.Smallest(failing)
		if l, e := rank.Conflicts(s); e != api.OK || !sameLists(l, want) {
			t.Fatalf("Conflicts(%v): error %d, %v, want %v", s, e, l, want)
		}
		size := r.Intn(4)
		want, _ = rank.Hit(failing, size)
		if l, e := rank.Suspects(s, size); e != api.OK || !sameLists(l, want) {
			t.Fatalf("Suspects(%v, %d): error %d, %v, want %v", s, size, e, l, want)
		}
	}
}

// P7.2: Blame counts the passing rows that cover a set somewhere.
func TestBlame(t *testing.T) {
	s := spectrum(4, "p 0 1, f 0 1 2, p 1, p, p 3, f")
	n, e := rank.Blame(s, [][]int{{0}, {1}, {2}, {3}, {0, 1}, {0, 3}, {0, 1, 2, 3}, nil, {1}})
	if e != api.OK || !slices.Equal(n, []int{1, 2, 0, 1, 2, 2, 3, 0, 2}) {
		t.Errorf("error %d, %v", e, n)
	}
	if n, e := rank.Blame(s, nil); e != api.OK || len(n) > 0 {
		t.Errorf("no sets: error %d, %v", e, n)
	}
	if n, e := rank.Blame(spectrum(4, ""), sets("0,1 3")); e != api.OK || !slices.Equal(n, []int{0, 0}) {
		t.Errorf("no rows: error %d, %v", e, n)
	}
	for _, l := range [][][]int{{{4}}, {{0}, {1, 2, 4}}, {{0}, {255}}} {
		if n, e := rank.Blame(s, l); e != api.ErrArg || len(n) > 0 {
			t.Errorf("Blame(%v): error %d, %v", l, e, n)
		}
	}
	if n, e := rank.Blame(s, append([][]int{{4}}, make([][]int, api.MaxSets)...)); e != api.ErrLimit || len(n) > 0 {
		t.Errorf("too many sets: error %d, %v", e, n)
	}
}

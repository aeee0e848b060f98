package rank_test

import (
	"fmt"
	"math/rand"
	"slices"
	"testing"

	"sleuth/api"
	"sleuth/rank"
)

// P7.1: which spectra there are.
func TestCheckSpectrum(t *testing.T) {
	full := api.Spectrum{Parts: api.MaxParts, Rows: slices.Repeat([]api.Row{{Hits: until(api.MaxParts)}}, api.MaxTests)}
	for _, s := range []api.Spectrum{
		{Parts: 1}, {Parts: api.MaxParts}, full, spectrum(1, "f"), spectrum(1, "f 0"), spectrum(3, "f 0 2, p, p 1, f 0 1 2"), {Parts: 1, Rows: []api.Row{{Hits: []int{}}}},
	} {
		if e := rank.CheckSpectrum(s); e != api.OK {
			t.Errorf("CheckSpectrum(%v): error %d", s, e)
		}
	}
	for want, l := range brokenSpectra() {
		for i, s := range l {
			if e := rank.CheckSpectrum(s); e != want {
				t.Errorf("CheckSpectrum, case %d: error %d, want %d", i, e, want)
			}
		}
	}
}

// P7.1, P7.2: all functions of a spectrum return CheckSpectrum's error ahead of all others.
func TestSpectrumFirst(t *testing.T) {
	good := spectrum(1, "f 0")
	for want, l := range brokenSpectra() {
		for i, s := range l {
			check := func(name string, e api.Errno, nothing bool) {
				t.Helper()
				if e != want || !nothing {
					t.Errorf("%s, case %d: error %d, want %d, %v", name, i, e, want, nothing)
				}
			}
			tallies, e := rank.Tallies(s)
			check("Tallies", e, len(tallies) == 0)
			standings, e := rank.Rank(s, api.FoNone)
			check("Rank", e, len(standings) == 0)
			best, worst, mean, e := rank.Effort(s, api.FoNone, nil)
			check("Effort", e, best == 0 && worst == 0 && mean == api.Ratio{})
			groups, e := rank.Alike(s)
			check("Alike", e, len(groups) == 0)
			lifted, e := rank.Lift(s, nil, -1)
			check("Lift", e, isNothing(lifted))
			for _, other := range []api.Spectrum{good, {}, {Parts: api.MaxParts + 1}} {
				joined, e := rank.Join(s, other)
				check("Join", e, isNothing(joined))
			}
			joined, e := rank.Join(good, s)
			check("Join behind", e, isNothing(joined))
			conflicts, e := rank.Conflicts(s)
			check("Conflicts", e, len(conflicts) == 0)
			suspects, e := rank.Suspects(s, -1)
			check("Suspects", e, len(suspects) == 0)
			counts, e := rank.Blame(s, sets("-1"))
			check("Blame", e, len(counts) == 0)
		}
	}
}

// P7.1: tallies count the rows by what they cover and by whether they fail.
func TestTallies(t *testing.T) {
	l, e := rank.Tallies(spectrum(3, "f 0 1, f 0, f 0, p 1, p"))
	want := []api.Tally{{FailHit: 3, PassMiss: 2}, {FailHit: 1, PassHit: 1, FailMiss: 2, PassMiss: 1}, {FailMiss: 3, PassMiss: 2}}
	if e != api.OK || !slices.Equal(l, want) {
		t.Errorf("error %d, %v, want %v", e, l, want)
	}
	if l, e := rank.Tallies(spectrum(2, "")); e != api.OK || !slices.Equal(l, make([]api.Tally, 2)) {
		t.Errorf("no rows: error %d, %v", e, l)
	}
	r := rand.New(rand.NewSource(3))
	for range 300 {
		s := randomSpectrum(r)
		l, e := rank.Tallies(s)
		if e != api.OK || len(l) != s.Parts {
			t.Fatalf("Tallies(%v): error %d, %v", s, e, l)
		}
		for part, tally := range l {
			counts := map[[2]bool]int{}
			for _, row := range s.Rows {
				counts[[2]bool{row.Fail, slices.Contains(row.Hits, part)}]++
			}
			want := api.Tally{FailHit: counts[[2]bool{true, true}], PassHit: counts[[2]bool{false, true}], FailMiss: counts[[2]bool{true, false}], PassMiss: counts[[2]bool{false, false}]}
			if tally != want {
				t.Fatalf("Tallies(%v): %v at %d, want %v", s, tally, part, want)
			}
		}
	}
}

// P7.1: groups are the components that the same rows cover.
func TestAlike(t *testing.T) {
	for _, c := range []struct {
		parts      int
		rows, want string
	}{
		{1, "", "0"}, {3, "", "0 1 2"}, {3, "p, f", "0 1 2"}, {3, "p 0 1 2", "0 1 2"}, {3, "f 1", "0 2,1"}, {4, "f 0 3, p 1 2 3", "0,1 2,3"},
		{5, "f 0 1 2, f 2 3", "0 1,2,3,4"}, {4, "f 1, p 2", "0 3,1,2"}, // as many rows, but other ones
		{4, "f 3, f 3, p 3", "0 1 2,3"},
	} {
		if l, e := rank.Alike(spectrum(c.parts, c.rows)); e != api.OK || !sameLists(l, sets(c.want)) {
			t.Errorf("Alike(%d, %s): error %d, %v, want %s", c.parts, c.rows, e, l, c.want)
		}
	}
	r := rand.New(rand.NewSource(4))
	for range 300 {
		s := randomSpectrum(r)
		var want [][]int
		at := map[string]int{}
		for part := range s.Parts {
			rows := ""
			for i, row := range s.Rows {
				if slices.Contains(row.Hits, part) {
					rows += fmt.Sprint(i, " ")
				}
			}
			if _, known := at[rows]; !known {
				at[rows] = len(want)
				want = append(want, nil)
			}
			want[at[rows]] = append(want[at[rows]], part)
		}
		if l, e := rank.Alike(s); e != api.OK || !sameLists(l, want) {
			t.Fatalf("Alike(%v): error %d, %v, want %v", s, e, l, want)
		}
	}
	last := spectrum(2, "")
	last.Rows = make([]api.Row, api.MaxTests)
	last.Rows[api.MaxTests-1].Hits = []int{1}
	if l, e := rank.Alike(last); e != api.OK || !sameLists(l, sets("0,1")) {
		t.Errorf("the last row decides: error %d, %v", e, l)
	}
}

// P7.1: Lift covers what owns something that was covered.
func TestLift(t *testing.T) {
	s := spectrum(4, "f 0 3, p 1 2, f, p 0 1 2 3, p 2")
	for _, c := range []struct {
		owner  string
		owners int
		want   string
	}{
		{"0 1 2 3", 4, "f 0 3, p 1 2, f, p 0 1 2 3, p 2"}, {"3 2 1 0", 4, "f 0 3, p 1 2, f, p 0 1 2 3, p 1"}, {"0 0 0 0", 1, "f 0, p 0, f, p 0, p 0"},
		{"1 0 0 1", 2, "f 1, p 0, f, p 0 1, p 0"}, {"2 2 2 7", 9, "f 2 7, p 2, f, p 2 7, p 2"}, {"255 0 255 0", 256, "f 0 255, p 0 255, f, p 0 255, p 255"},
	} {
		if l, e := rank.Lift(s, numbers(c.owner), c.owners); e != api.OK || !sameSpectrum(l, spectrum(c.owners, c.want)) {
			t.Errorf("Lift by %s: error %d, %v, want %s", c.owner, e, l, c.want)
		}
	}
	for _, c := range []struct {
		owner  string
		owners int
		want   api.Errno
	}{
		{"0 0 0 0", 0, api.ErrArg}, {"0 0 0 0", -1, api.ErrArg}, {"0 0 0 0", -1 << 63, api.ErrArg}, {"0 0 0 0", 257, api.ErrLimit}, {"0 0 0 0", 1<<63 - 1, api.ErrLimit},
		{"0 0 0", 257, api.ErrLimit}, {"-1 0 0 0", 257, api.ErrLimit}, {"", 1, api.ErrArg}, {"0 0 0", 1, api.ErrArg}, {"0 0 0 0 0", 1, api.ErrArg},
		{"0 0 0 1", 1, api.ErrArg}, {"-1 0 0 0", 1, api.ErrArg}, {"0 1 2 3", 3, api.ErrArg}, {"0 0 256 0", 256, api.ErrArg},
	} {
		if l, e := rank.Lift(s, numbers(c.owner), c.owners); e != c.want || !isNothing(l) {
			t.Errorf("Lift by %s to %d: error %d, %v, want %d", c.owner, c.owners, e, l, c.want)
		}
	}
	if l, e := rank.Lift(spectrum(2, ""), []int{1, 1}, 3); e != api.OK || !sameSpectrum(l, spectrum(3, "")) {
		t.Errorf("no rows: error %d, %v", e, l)
	}
	r := rand.New(rand.NewSource(5))
	for range 300 {
		s := randomSpectrum(r)
		owners := 1 + r.Intn(6)
		var owner []int
		for range s.Parts {
			owner = append(owner, r.Intn(owners))
		}
		l, e := rank.Lift(s, owner, owners)
		if e != api.OK || l.Parts != owners || len(l.Rows) != len(s.Rows) || rank.CheckSpectrum(l) != api.OK {
			t.Fatalf("Lift(%v, %v): error %d, %v", s, owner, e, l)
		}
		for i, row := range l.Rows {
			for n := range owners {
				owns := func(part int) bool { return owner[part] == n }
				if row.Fail != s.Rows[i].Fail || slices.Contains(row.Hits, n) != slices.ContainsFunc(s.Rows[i].Hits, owns) {
					t.Fatalf("Lift(%v, %v): %v", s, owner, l)
				}
			}
		}
	}
}

// P7.1: Join puts the components of the second spectrum behind those of the first.
func TestJoin(t *testing.T) {
	for _, c := range []struct {
		parts, others        int
		rows, behind, joined string
	}{
		{1, 1, "", "", ""}, {2, 3, "f 0 1, p, p 1", "f 0 2, p 1, p", "f 0 1 2 4, p 3, p 1"}, {255, 1, "p 0 254", "p 0", "p 0 254 255"}, {128, 128, "f", "f 127", "f 255"},
	} {
		j, e := rank.Join(spectrum(c.parts, c.rows), spectrum(c.others, c.behind))
		if e != api.OK || !sameSpectrum(j, spectrum(c.parts+c.others, c.joined)) {
			t.Errorf("Join of %s and %s: error %d, %v, want %s", c.rows, c.behind, e, j, c.joined)
		}
	}
	for _, c := range []struct {
		a, b api.Spectrum
		want api.Errno
	}{
		{spectrum(1, "f"), spectrum(1, "p"), api.ErrClash}, {spectrum(1, "p 0, p 0"), spectrum(1, "p 0, f 0"), api.ErrClash}, {spectrum(1, "p"), spectrum(1, ""), api.ErrClash},
		{spectrum(1, ""), spectrum(1, "f"), api.ErrClash}, {spectrum(1, "p, p"), spectrum(1, "p"), api.ErrClash}, {spectrum(1, "p"), spectrum(1, "p, p"), api.ErrClash},
		{spectrum(256, ""), spectrum(1, ""), api.ErrLimit}, {spectrum(1, "f 0"), spectrum(256, "f 255"), api.ErrLimit}, {spectrum(129, ""), spectrum(128, ""), api.ErrLimit},
		{spectrum(256, "f"), spectrum(256, "p"), api.ErrClash}, {spectrum(256, "f"), spectrum(256, ""), api.ErrClash}, // ahead of the limit
		{spectrum(1, "f 1"), spectrum(0, ""), api.ErrArg}, {spectrum(1, "f 0"), spectrum(257, "p"), api.ErrLimit}, {spectrum(257, ""), spectrum(0, ""), api.ErrLimit},
	} {
		if j, e := rank.Join(c.a, c.b); e != c.want || !isNothing(j) {
			t.Errorf("Join(%v, %v): error %d, %v, want %d", c.a, c.b, e, j, c.want)
		}
	}
}

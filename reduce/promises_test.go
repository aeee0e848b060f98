package reduce_test

import (
	"fmt"
	"math/rand"
	"slices"
	"testing"

	"sleuth/api"
	"sleuth/reduce"
)

// P6.6, P0.5: the result of List, and of Counted, fails, and without any one of its elements it was asked and did not fail.
func TestMinimal(t *testing.T) {
	r := rand.New(rand.NewSource(22))
	for i := range 2000 {
		n := r.Intn(14)
		next := list(n)
		if i%2 == 1 {
			next = counted(n, r.Intn(20)-3)
		}
		v := randomVerdicts(r)
		v.known[fmt.Sprint(until(n))] = api.VeFail
		got := runSets(t, next, v.onSet)
		kept := got.end.Kept
		if answer, asked := got.verdictOn(kept); got.e != api.OK || !asked || answer != api.VeFail {
			t.Fatalf("%d items: error %d, %v", n, got.e, got.end)
		}
		for _, x := range kept {
			if answer, asked := got.verdictOn(less(kept, []int{x})); !asked || answer == api.VeFail {
				t.Fatalf("%d items: %v, without %d %v, %d", n, kept, x, asked, answer)
			}
		}
		if check := runSets(t, removable(kept), v.onSet); check.e != api.OK || len(check.end.Kept) > 0 {
			t.Fatalf("Removable(%v): error %d, %v", kept, check.e, check.end)
		}
	}
}

// P6.6: if exactly the sets with all of some items fail, both results are these.
func TestMinimum(t *testing.T) {
	r := rand.New(rand.NewSource(23))
	for range 1000 {
		n := r.Intn(40)
		s := some(r, until(n), 1+r.Intn(20))
		fails := func(c []int) api.Verdict {
			if isWithin(s, c) {
				return api.VeFail
			}
			return []api.Verdict{api.VePass, api.VeUnknown}[len(c)%2]
		}
		start := r.Intn(40)
		for name, next := range map[string]setSearch{"List": list(n), "Counted": counted(n, start)} {
			if got := runSets(t, next, fails); got.e != api.OK || !slices.Equal(got.end.Kept, s) {
				t.Fatalf("%s of %d items (start %d): error %d, %v, want %v", name, n, start, got.e, got.end, s)
			}
		}
	}
}

// P6.7: Difference ends with a set that passes, within one that fails, and no single element of their difference can be moved.
func TestIsolated(t *testing.T) {
	r := rand.New(rand.NewSource(24))
	for range 3000 {
		n := 1 + r.Intn(14)
		v := randomVerdicts(r)
		v.known["[]"], v.known[fmt.Sprint(until(n))] = api.VePass, api.VeFail
		got := runSets(t, difference(n), v.onSet)
		p, f := got.end.Pass, got.end.Kept
		passes, _ := got.verdictOn(p)
		fails, _ := got.verdictOn(f)
		if got.e != api.OK || passes != api.VePass || fails != api.VeFail || !isWithin(p, f) || len(f) == len(p) {
			t.Fatalf("Difference(%d): error %d, %v", n, got.e, got.end)
		}
		if len(f) == len(p)+1 {
			continue
		}
		for _, x := range less(f, p) {
			for _, c := range [][]int{more(p, []int{x}), less(f, []int{x})} {
				if answer, asked := got.verdictOn(c); !asked || answer == api.VePass || answer == api.VeFail {
					t.Fatalf("Difference(%d) ends with %v: %v, %d of %v", n, got.end, asked, answer, c)
				}
			}
		}
	}
}

// P6.11: no search asks a candidate twice, or a version more often than it may.
func TestAskedOnce(t *testing.T) {
	r := rand.New(rand.NewSource(25))
	most := func(name string, asked []string, times int) {
		t.Helper()
		count := map[string]int{}
		for _, c := range asked {
			if count[c]++; count[c] > times {
				t.Fatalf("%s asks %s too often", name, c)
			}
		}
	}
	for range 500 {
		n := 2 + r.Intn(12)
		v := randomVerdicts(r)
		draw := func([]int) api.Verdict { return v.draw() } // other answers would be given for a candidate the second time
		h, good, bad := randomHistory(r)
		times := 1 + r.Intn(9)
		most("List", runSets(t, list(n), draw).texts(), 1)
		most("Counted", runSets(t, counted(n, 1+r.Intn(9)), draw).texts(), 1)
		most("Removable", runSets(t, removable(some(r, until(n), 2)), draw).texts(), 1)
		most("Difference", runSets(t, difference(n), draw).texts(), 1)
		most("Changes", runSets(t, changes(randomNeeds(r, n)), draw).texts(), 1)
		most("Schedule", runPicks(t, randomPicks(r, n), func([]api.Pick) api.Verdict { return v.draw() }).texts(), 1)
		most("Bisect", runSets(t, bisect(n, times), draw).texts(), times)
		most("Culprits", runSets(t, culprits(h, good, bad, times), draw).texts(), times)
		g, x := goodTree(r, 20)
		most("Tree", runTree(t, g, x, func(string) api.Verdict { return v.draw() }).texts(), 1)
	}
}

// endless is a schedule with as many picks as are allowed, of which some answers lead to a long search.
func endless() ([]api.Pick, []api.Verdict) {
	var l []api.Pick
	for i := range api.MaxItems {
		l = append(l, api.Pick{Thread: i % api.MaxThreads, Count: 1 + i})
	}
	var answers []api.Verdict
	for i := range api.MaxAsks + 1 {
		answers = append(answers, verdict(i%200 == 0))
	}
	return l, answers
}

// A search is given at most MaxAsks answers.
func TestMaxAsks(t *testing.T) {
	l, answers := endless()
	if q, e := reduce.Schedule(l, answers[:api.MaxAsks]); e != api.OK || q.Done || len(q.Picks) == 0 {
		t.Errorf("%d answers: error %d, %v", api.MaxAsks, e, q)
	}
	if q, e := reduce.Schedule(l, answers); e != api.ErrLimit || q.Done || len(q.Picks) > 0 {
		t.Errorf("%d answers: error %d, %v", api.MaxAsks+1, e, q)
	}
	for name, s := range allSearches() {
		for _, first := range []api.Verdict{api.VePass, api.VeFail, api.VeUnknown} {
			answers := append([]api.Verdict{first}, answersOf(api.VePass, api.MaxAsks)...)
			want := s.ends(t, answers[:api.MaxAsks])
			if want != "!8" && want != "!7" {
				t.Errorf("%s with %d answers: %s", name, api.MaxAsks, want)
			}
			if got := s.ends(t, answers); got != "!3" {
				t.Errorf("%s with %d answers: %s", name, api.MaxAsks+1, got)
			}
		}
	}
}

// search is a search with its answers left open, which tells as a text how far it has come.
type search func([]api.Verdict) string

// ends returns how far a search has come, and checks that it is so each time.
func (s search) ends(t *testing.T, answers []api.Verdict) string {
	t.Helper()
	got := s(answers)
	if again := s(answers); got != again {
		t.Errorf("%s, then %s", got, again)
	}
	return got
}

// allSearches is each search with arguments without an error.
func allSearches() map[string]search {
	return map[string]search{
		"List":       list(5).told,
		"Counted":    counted(5, 2).told,
		"Removable":  removable([]int{1, 4, 7}).told,
		"Difference": difference(5).told,
		"Changes":    changes(chained()).told,
		"Bisect":     bisect(7, 2).told,
		"Culprits":   culprits(branches(), []int{0}, 5, 2).told,
		"Schedule":   func(a []api.Verdict) string { return toldPicks(picks("0 1, 1 1, 0 1, 2 1, 1 1"), a) },
		"Tree":       func(a []api.Verdict) string { return toldTree(lists(), read("[[a,b],c]"), a) },
	}
}

// P6.11: the next question depends on the answers before it alone, and an answer that is none of the three counts as VeUnknown.
func TestAnswersAlone(t *testing.T) {
	r := rand.New(rand.NewSource(26))
	odd := []api.Verdict{api.VeNone, 4, 5, 200, 255}
	for name, s := range allSearches() {
		for range 100 {
			v := randomVerdicts(r)
			var answers, others []api.Verdict
			var way []string
			for {
				got := s.ends(t, answers)
				if with := s(others); with != got {
					t.Fatalf("%s, answers %v: %s, but %s with %v", name, answers, got, with, others)
				}
				way = append(way, got)
				if got[0] != '?' {
					break
				}
				answer := v.draw()
				answers = append(answers, answer)
				if answer != api.VePass && answer != api.VeFail {
					answer = odd[r.Intn(len(odd))]
				}
				others = append(others, answer)
			}
			for range 5 { // whatever stands behind them, and whatever was asked meanwhile
				n := r.Intn(len(way))
				behind := append(slices.Clone(answers[:n]), answersIn("fpu")...)
				if got := s(behind[:n]); got != way[n] {
					t.Fatalf("%s, answers %v: %s, then %s", name, answers[:n], way[n], got)
				}
			}
		}
	}
}

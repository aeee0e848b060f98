package rank_test

import (
	"math/big"
	"math/rand"
	"slices"
	"testing"

	"sleuth/api"
	"sleuth/rank"
)

// place returns the standing of a component with the score num / den.
func place(part int, num, den int64, best, worst int) api.Standing {
	return api.Standing{Part: part, Score: ratio(num, den), Best: best, Worst: worst}
}

// P7.1: rankings, worked out by hand.
func TestRank(t *testing.T) {
	for _, c := range []struct {
		parts int
		rows  string
		f     api.Formula
		want  []api.Standing
	}{
		{2, "f 0 1, p 1", api.FoJaccard, []api.Standing{place(0, 1, 1, 1, 1), place(1, 1, 2, 2, 2)}},
		{1, "", api.FoOp, []api.Standing{place(0, 0, 1, 1, 1)}},
		{3, "", api.FoWong, []api.Standing{place(0, 0, 1, 1, 3), place(1, 0, 1, 1, 3), place(2, 0, 1, 1, 3)}},
		{4, "p 0 2, f 1, p 2", api.FoBarinel, []api.Standing{place(1, 1, 1, 1, 1), place(0, 0, 1, 2, 4), place(2, 0, 1, 2, 4), place(3, 0, 1, 2, 4)}},
		{5, "f 1 3 4, p 0 1, f 2 3 4", api.FoWong, []api.Standing{place(3, 2, 1, 1, 2), place(4, 2, 1, 1, 2), place(2, 1, 1, 3, 3), place(1, 0, 1, 4, 4), place(0, -1, 1, 5, 5)}},
		{3, "p 0, p 1, p 0 1, f 2", api.FoOp, []api.Standing{place(2, 1, 1, 1, 1), place(0, -1, 2, 2, 3), place(1, -1, 2, 2, 3)}},
	} {
		if l, e := rank.Rank(spectrum(c.parts, c.rows), c.f); e != api.OK || !slices.Equal(l, c.want) {
			t.Errorf("Rank(%s) by %d: error %d, %v, want %v", c.rows, c.f, e, l, c.want)
		}
	}
	for _, f := range []api.Formula{api.FoNone, api.FoZoltar + 1, 255} {
		if l, e := rank.Rank(spectrum(2, "f 0"), f); e != api.ErrArg || len(l) > 0 {
			t.Errorf("Rank by %d: error %d, %v", f, e, l)
		}
		if best, worst, mean, e := rank.Effort(spectrum(2, "f 0"), f, []int{0}); e != api.ErrArg || best != 0 || worst != 0 || mean != (api.Ratio{}) {
			t.Errorf("Effort by %d: error %d, %d, %d, %v", f, e, best, worst, mean)
		}
	}
}

// P7.1: a ranking has all components, by their scores and then by their numbers, with their places.
func TestRandomRanks(t *testing.T) {
	r := rand.New(rand.NewSource(6))
	for range 150 {
		s := randomSpectrum(r)
		tallies, _ := rank.Tallies(s)
		for _, f := range formulas() {
			l, e := rank.Rank(s, f)
			if e != api.OK || len(l) != s.Parts {
				t.Fatalf("Rank(%v) by %d: error %d, %v", s, f, e, l)
			}
			best := 0
			for i, x := range l {
				score, e := rank.Score(f, tallies[x.Part])
				if e != api.OK || score != x.Score {
					t.Fatalf("Rank(%v) by %d: error %d, %v at %d, want %v", s, f, e, x, i, score)
				}
				if i == 0 || value(l[i-1].Score).Cmp(value(x.Score)) > 0 {
					best = i + 1
				} else if l[i-1].Score != x.Score || l[i-1].Part >= x.Part {
					t.Fatalf("Rank(%v) by %d: the order of %v", s, f, l)
				}
				worst := i + 1
				for worst < len(l) && l[worst].Score == x.Score {
					worst++
				}
				if x.Best != best || x.Worst != worst {
					t.Fatalf("Rank(%v) by %d: the places of %v in %v, want %d and %d", s, f, x, l, best, worst)
				}
			}
		}
	}
}

// P7.1: efforts, worked out by hand.
func TestEffort(t *testing.T) {
	s := spectrum(7, "f 1 3 4 5, p 0 1, f 2 3 4 5, p 0 6, p 6") // by FoWong: 3, 4 and 5 have 2, then 2, 1; 0 and 6 have -2
	for _, c := range []struct {
		faulty      string
		best, worst int
		mean        api.Ratio
	}{
		{"3", 1, 3, ratio(2, 1)}, {"5", 1, 3, ratio(2, 1)}, {"3 4", 1, 2, ratio(4, 3)}, {"3 4 5", 1, 1, ratio(1, 1)}, {"0 1 2 3 4 5 6", 1, 1, ratio(1, 1)},
		{"2", 4, 4, ratio(4, 1)}, {"1", 5, 5, ratio(5, 1)}, {"1 2", 4, 4, ratio(4, 1)}, {"0", 6, 7, ratio(13, 2)}, {"6", 6, 7, ratio(13, 2)}, {"0 6", 6, 6, ratio(6, 1)}, {"0 3", 1, 3, ratio(2, 1)}, {"0 1", 5, 5, ratio(5, 1)},
	} {
		best, worst, mean, e := rank.Effort(s, api.FoWong, numbers(c.faulty))
		if e != api.OK || best != c.best || worst != c.worst || mean != c.mean {
			t.Errorf("Effort for %s: error %d, %d, %d, %v, want %d, %d, %v", c.faulty, e, best, worst, mean, c.best, c.worst, c.mean)
		}
	}
	for _, faulty := range []string{"", "-1", "7", "0 7", "-1 0", "1 1", "2 1", "0 1 2 6 5"} {
		if best, worst, mean, e := rank.Effort(s, api.FoWong, numbers(faulty)); e != api.ErrArg || best != 0 || worst != 0 || mean != (api.Ratio{}) {
			t.Errorf("Effort for %s: error %d, %d, %d, %v", faulty, e, best, worst, mean)
		}
	}
}

// orders calls a function with all orders of a list.
func orders(l []int, each func([]int)) {
	if len(l) == 0 {
		each(nil)
	}
	for i := range l {
		orders(slices.Concat(l[:i], l[i+1:]), func(rest []int) { each(append([]int{l[i]}, rest...)) })
	}
}

// P7.1: an effort is the least, the greatest and the mean place of the first faulty component, over all orders of those with equal scores.
func TestEffortOrders(t *testing.T) {
	r := rand.New(rand.NewSource(7))
	for range 250 {
		s := api.Spectrum{Parts: 1 + r.Intn(6)}
		for range r.Intn(4) {
			s.Rows = append(s.Rows, api.Row{Hits: some(r, until(s.Parts), 2), Fail: r.Intn(2) == 0})
		}
		f := formulas()[r.Intn(len(formulas()))]
		faulty := some(r, until(s.Parts), 1+r.Intn(3))
		if len(faulty) == 0 {
			continue
		}
		standings, _ := rank.Rank(s, f)
		scores := map[int]*big.Rat{}
		for _, x := range standings {
			scores[x.Part] = value(x.Score)
		}
		least, most, sum, count := s.Parts+1, 0, int64(0), int64(0)
		orders(until(s.Parts), func(l []int) {
			if !slices.IsSortedFunc(l, func(a, b int) int { return scores[b].Cmp(scores[a]) }) {
				return
			}
			place := 1 + slices.IndexFunc(l, func(part int) bool { return slices.Contains(faulty, part) })
			least, most = min(least, place), max(most, place)
			sum += int64(place)
			count++
		})
		best, worst, mean, e := rank.Effort(s, f, faulty)
		if e != api.OK || best != least || worst != most || value(mean).Cmp(big.NewRat(sum, count)) != 0 {
			t.Fatalf("Effort(%v) by %d for %v: error %d, %d, %d, %v, want %d, %d, %d / %d", s, f, faulty, e, best, worst, mean, least, most, sum, count)
		}
	}
}

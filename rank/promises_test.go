package rank_test

import (
	"math/rand"
	"slices"
	"testing"

	"sleuth/api"
	"sleuth/rank"
)

// ranked returns a ranking, without an error.
func ranked(t *testing.T, s api.Spectrum, f api.Formula) []api.Standing {
	t.Helper()
	l, e := rank.Rank(s, f)
	if e != api.OK {
		t.Fatalf("Rank(%v) by %d: error %d", s, f, e)
	}
	return l
}

// byPart returns the standings by the numbers of their components.
func byPart(l []api.Standing) []api.Standing {
	l = slices.Clone(l)
	slices.SortFunc(l, func(a, b api.Standing) int { return a.Part - b.Part })
	return l
}

// places returns standings without their scores.
func places(l []api.Standing) []api.Standing {
	l = slices.Clone(l)
	for i := range l {
		l[i].Score = api.Ratio{}
	}
	return l
}

// P7.4: a ranking does not depend on the order of the rows.
func TestRowOrder(t *testing.T) {
	r := rand.New(rand.NewSource(12))
	for range 100 {
		s := randomSpectrum(r)
		shuffled := api.Spectrum{Parts: s.Parts, Rows: slices.Clone(s.Rows)}
		r.Shuffle(len(s.Rows), func(i, j int) { shuffled.Rows[i], shuffled.Rows[j] = shuffled.Rows[j], shuffled.Rows[i] })
		for _, f := range formulas() {
			if a, b := ranked(t, s, f), ranked(t, shuffled, f); !slices.Equal(a, b) {
				t.Fatalf("by %d: %v of %v, %v of %v", f, a, s, b, shuffled)
			}
		}
	}
}

// P7.4: components of one group have equal standings.
func TestAlikeStandings(t *testing.T) {
	r := rand.New(rand.NewSource(13))
	for range 100 {
		s := randomSpectrum(r)
		groups, _ := rank.Alike(s)
		for _, f := range formulas() {
			l := byPart(ranked(t, s, f))
			for _, g := range groups {
				for _, part := range g {
					x := l[part]
					x.Part = g[0]
					if x != l[g[0]] {
						t.Fatalf("Rank(%v) by %d: %v and %v", s, f, l[g[0]], l[part])
					}
				}
			}
		}
	}
}

// P7.4: FoDice ranks as FoJaccard does, and FoTarantula as FoBarinel.
func TestSameRankings(t *testing.T) {
	r := rand.New(rand.NewSource(14))
	for range 300 {
		s := randomSpectrum(r)
		for f, g := range map[api.Formula]api.Formula{api.FoDice: api.FoJaccard, api.FoTarantula: api.FoBarinel} {
			if a, b := places(ranked(t, s, f)), places(ranked(t, s, g)); !slices.Equal(a, b) {
				t.Fatalf("Rank(%v): %v by %d, %v by %d", s, a, f, b, g)
			}
		}
	}
}

// P7.4: what all failing rows and no passing ones cover is ranked first.
func TestPerfect(t *testing.T) {
	r := rand.New(rand.NewSource(15))
	second := map[api.Formula]bool{}
	for i := range 400 {
		s := randomSpectrum(r)
		perfect, fails := r.Intn(s.Parts), false
		for n := range s.Rows {
			row := &s.Rows[n]
			row.Fail = row.Fail && i%8 != 0
			row.Hits = slices.DeleteFunc(row.Hits, func(part int) bool { return part == perfect })
			if row.Fail {
				row.Hits = append(row.Hits, perfect)
				slices.Sort(row.Hits)
				fails = true
			}
		}
		for _, f := range formulas() {
			if byPart(ranked(t, s, f))[perfect].Best == 1 {
				continue
			}
			second[f] = true
			if fails || f != api.FoAmple && f != api.FoMatching {
				t.Fatalf("Rank(%v) by %d: %d is not the first one", s, f, perfect)
			}
		}
	}
	if !second[api.FoAmple] {
		t.Error("FoAmple ranks it first without a failing row, too")
	}
}

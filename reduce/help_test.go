package reduce_test

import (
	"fmt"
	"math/rand"
	"slices"
	"strings"
	"testing"

	"sleuth/api"
	"sleuth/reduce"
)

// told is what a search came to: its result or error, and the questions on the way.
type told[C, Q any] struct {
	end     Q
	e       api.Errno
	asked   []C
	answers []api.Verdict
}

// run goes on with a search until it returns no question any more.
func run[C, Q any](t *testing.T, next func([]api.Verdict) (Q, api.Errno), question func(Q) (C, bool), answer func(C) api.Verdict) told[C, Q] {
	t.Helper()
	var r told[C, Q]
	for len(r.answers) <= api.MaxAsks {
		q, e := next(slices.Clone(r.answers))
		c, asks := question(q)
		if e != api.OK || !asks {
			r.end, r.e = q, e
			return r
		}
		r.asked = append(r.asked, c)
		r.answers = append(r.answers, answer(c))
	}
	t.Fatal("a search has no end")
	return r
}

// texts returns the questions as texts.
func (r told[C, Q]) texts() []string {
	var l []string
	for _, c := range r.asked {
		l = append(l, fmt.Sprint(c))
	}
	return l
}

// verdictOn returns what was answered for a candidate, and whether it was asked.
func (r told[C, Q]) verdictOn(c C) (api.Verdict, bool) {
	at := slices.Index(r.texts(), fmt.Sprint(c))
	if at < 0 {
		return api.VeNone, false
	}
	return r.answers[at], true
}

type setSearch func([]api.Verdict) (api.Quest, api.Errno)

func runSets(t *testing.T, next setSearch, answer func([]int) api.Verdict) told[[]int, api.Quest] {
	t.Helper()
	return run(t, next, func(q api.Quest) ([]int, bool) {
		if q.Done && len(q.Ask) > 0 || !q.Done && len(q.Kept)+len(q.Pass) > 0 {
			t.Fatalf("a question and a result: %v", q)
		}
		return q.Ask, !q.Done
	}, answer)
}

func runPicks(t *testing.T, l []api.Pick, answer func([]api.Pick) api.Verdict) told[[]api.Pick, api.PickQuest] {
	t.Helper()
	return run(t, func(a []api.Verdict) (api.PickQuest, api.Errno) { return reduce.Schedule(l, a) },
		func(q api.PickQuest) ([]api.Pick, bool) { return q.Picks, !q.Done }, answer)
}

// runTree gives the trees as their texts: as the search does, it takes trees with equal ones for the same.
func runTree(t *testing.T, g api.Grammar, x api.Tree, answer func(string) api.Verdict) told[string, api.TreeQuest] {
	t.Helper()
	return run(t, func(a []api.Verdict) (api.TreeQuest, api.Errno) { return reduce.Tree(g, x, a) },
		func(q api.TreeQuest) (string, bool) { return textOf(g, q.Tree), !q.Done }, answer)
}

// The searches for sets, with their answers left open.
func list(n int) setSearch {
	return func(a []api.Verdict) (api.Quest, api.Errno) { return reduce.List(n, a) }
}

func counted(n, start int) setSearch {
	return func(a []api.Verdict) (api.Quest, api.Errno) { return reduce.Counted(n, start, a) }
}

func removable(kept []int) setSearch {
	return func(a []api.Verdict) (api.Quest, api.Errno) { return reduce.Removable(kept, a) }
}

func difference(n int) setSearch {
	return func(a []api.Verdict) (api.Quest, api.Errno) { return reduce.Difference(n, a) }
}

func changes(needs [][]int) setSearch {
	return func(a []api.Verdict) (api.Quest, api.Errno) { return reduce.Changes(needs, a) }
}

func bisect(n, times int) setSearch {
	return func(a []api.Verdict) (api.Quest, api.Errno) { return reduce.Bisect(n, times, a) }
}

func culprits(h api.History, good []int, bad, times int) setSearch {
	return func(a []api.Verdict) (api.Quest, api.Errno) { return reduce.Culprits(h, good, bad, times, a) }
}

// verdicts gives random answers: the same one for the same candidate.
type verdicts struct {
	*rand.Rand
	fail, pass int // of 100
	known      map[string]api.Verdict
}

func randomVerdicts(r *rand.Rand) *verdicts {
	fail := r.Intn(60)
	return &verdicts{r, fail, r.Intn(101 - fail), map[string]api.Verdict{}}
}

// of returns the answer for a candidate with a text.
func (v *verdicts) of(text string) api.Verdict {
	if _, is := v.known[text]; !is {
		v.known[text] = v.draw()
	}
	return v.known[text]
}

func (v *verdicts) draw() api.Verdict {
	switch n := v.Intn(100); {
	case n < v.fail:
		return api.VeFail
	case n < v.fail+v.pass:
		return api.VePass
	}
	return []api.Verdict{api.VeUnknown, api.VeNone, 4, 255}[v.Intn(4)]
}

func (v *verdicts) onSet(s []int) api.Verdict { return v.of(fmt.Sprint(s)) }

// verdict is the answer for a candidate that fails or passes.
func verdict(fails bool) api.Verdict {
	if fails {
		return api.VeFail
	}
	return api.VePass
}

// until returns the numbers from 0 to n - 1.
func until(n int) []int {
	var l []int
	for i := range n {
		l = append(l, i)
	}
	return l
}

// numbers returns the numbers in a text, with blanks between them.
func numbers(text string) []int {
	var l []int
	for _, s := range strings.Fields(text) {
		var n int
		if _, e := fmt.Sscan(s, &n); e != nil {
			panic(e)
		}
		l = append(l, n)
	}
	return l
}

// isWithin reports whether all elements of a list are in another one.
func isWithin(l, in []int) bool {
	return !slices.ContainsFunc(l, func(n int) bool { return !slices.Contains(in, n) })
}

// less returns the elements of a list that are not in another one.
func less(l, out []int) []int {
	var rest []int
	for _, n := range l {
		if !slices.Contains(out, n) {
			rest = append(rest, n)
		}
	}
	return rest
}

// more returns the elements of two lists, ascending.
func more(a, b []int) []int {
	l := append(slices.Clone(a), less(b, a)...)
	slices.Sort(l)
	return l
}

// some returns a random subset of a list, each element of which is in it one time of so many.
func some(r *rand.Rand, l []int, of int) []int {
	var s []int
	for _, n := range l {
		if r.Intn(of) == 0 {
			s = append(s, n)
		}
	}
	return s
}

// sameLists compares lists of lists; a nil list is an empty one.
func sameLists(a, b [][]int) bool { return slices.EqualFunc(a, b, slices.Equal) }

// answersOf returns so many equal answers.
func answersOf(v api.Verdict, n int) []api.Verdict { return slices.Repeat([]api.Verdict{v}, n) }

// answersIn returns the answers with the letters p, f and u.
func answersIn(text string) []api.Verdict {
	var l []api.Verdict
	for _, letter := range text {
		l = append(l, map[rune]api.Verdict{'p': api.VePass, 'f': api.VeFail, 'u': api.VeUnknown}[letter])
	}
	return l
}

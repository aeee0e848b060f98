package repair

import (
	"iter"
	"slices"
	"sync"

	"sleuth/api"
	"sleuth/reduce"
)

// judgement returns what the suite says of the patched program.
func (t trial) judgement() api.Judgement {
	turned := make(chan int, len(t.runs)) // what changed finds, for worse
	changed := func(yield func(int) bool) {
		defer close(turned)
		for n := range t.changed {
			turned <- n
			if !yield(n) {
				return
			}
		}
	}
	l := gathered(t.failed, t.broken, t.lost, changed, t.worse(turned))
	return api.Judgement{Failed: l[0], Broken: l[1], Lost: l[2], Changed: l[3], Worse: l[4]}
}

// gathered returns what each of some iterators tells, in ascending order. They are at work at the same time.
func gathered(finders ...iter.Seq[int]) [][]int {
	var group sync.WaitGroup
	var channels []chan int
	for _, find := range finders {
		c := make(chan int, api.MaxRuns) // no list is longer, so that none of them waits
		channels = append(channels, c)
		group.Add(1)
		go func() {
			defer group.Done()
			defer close(c)
			for n := range find {
				c <- n
			}
		}()
	}
	var lists [][]int
	for _, c := range channels {
		var l []int
		for n := range c {
			l = append(l, n)
		}
		slices.Sort(l)
		lists = append(lists, l)
	}
	group.Wait()
	return lists
}

// Judge returns the judgement of a patch: P9.2.
func Judge(p api.Program, x api.Patch, s api.Suite) (api.Judgement, api.Errno) {
	t, e := trialOf(p, x, s)
	if e != api.OK {
		return api.Judgement{}, e
	}
	return t.judgement(), api.OK
}

// Accepts reports whether a judgement accepts a patch: P9.2.
func Accepts(j api.Judgement) bool {
	return len(j.Failed) == 0 && len(j.Broken) == 0 && len(j.Lost) == 0
}

// isAccepted reports whether Accepts accepts the judgement, without the rest of it.
func (t trial) isAccepted() bool {
	for _, faults := range [...]iter.Seq[int]{t.lost, t.failed, t.broken} {
		for range faults {
			return false
		}
	}
	return true
}

// Effects returns the runs within the bound that a patch changes: P9.2.
func Effects(p api.Program, x api.Patch, s api.Suite) ([]api.Effect, api.Errno) {
	t, e := trialOf(p, x, s)
	if e != api.OK {
		return nil, e
	}
	var l []api.Effect
	for n := range t.changed {
		before, after := t.outcomes(n)
		l = append(l, api.Effect{Run: n, Before: before, After: after, Step: t.parting(n)})
	}
	return l, api.OK
}

// Minimize returns an accepted patch without the edits that it does not need: P9.2.
func Minimize(p api.Program, x api.Patch, s api.Suite) (api.Patch, api.Errno) {
	t, e := trialOf(p, x, s)
	if e == api.OK && !t.isAccepted() {
		e = api.ErrState
	}
	if e != api.OK {
		return api.Patch{}, e
	}
	var answers []api.Verdict
	for {
		q, e := reduce.List(len(x.Edits), answers)
		switch {
		case e != api.OK:
			return api.Patch{}, e
		case q.Done:
			return copiedPatch(chosen(x, q.Kept)), api.OK
		}
		answers = append(answers, t.verdict(chosen(x, q.Ask)))
	}
}

// chosen returns the patch of some edits of another one.
func chosen(x api.Patch, at []int) api.Patch {
	var y api.Patch
	for _, i := range at {
		y.Edits = append(y.Edits, x.Edits[i])
	}
	return y
}

// verdict returns the answer for a patch in a search for an accepted one.
func (b bench) verdict(x api.Patch) api.Verdict {
	q, e := b.patched(x)
	switch {
	case e != api.OK:
		return api.VeUnknown
	case b.attempt(x, q).isAccepted():
		return api.VeFail
	}
	return api.VePass
}

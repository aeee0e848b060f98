package reduce

import (
	"iter"
	"slices"

	"sleuth/api"
)

// Normal returns the normal form of a schedule.
func Normal(l []api.Pick) ([]api.Pick, api.Errno) {
	left := api.MaxSteps
	for _, p := range l {
		if !isNumber(p.Thread, api.MaxThreads) || p.Count < 1 {
			return nil, api.ErrArg
		}
		if p.Count > left {
			return nil, api.ErrLimit
		}
		left -= p.Count
	}
	return merged(l), api.OK
}

// merged makes one pick of neighbouring picks of one thread.
func merged(l []api.Pick) []api.Pick {
	var m []api.Pick
	for _, p := range l {
		if last := len(m) - 1; last >= 0 && m[last].Thread == p.Thread {
			m[last].Count += p.Count
		} else {
			m = append(m, p)
		}
	}
	return m
}

// Preemptions returns the preemptions of a schedule.
func Preemptions(l []api.Pick) ([]int, api.Errno) {
	l, e := Normal(l)
	if e != api.OK {
		return nil, e
	}
	return slices.DeleteFunc(until(len(l)), func(at int) bool { return !isPreemption(l, at) }), api.OK
}

func isPreemption(l []api.Pick, at int) bool { return later(l, at) > at }

// later returns the next later pick of the thread that a pick is of, or -1.
func later(l []api.Pick, at int) int {
	for i := at + 1; i < len(l); i++ {
		if l[i].Thread == l[at].Thread {
			return i
		}
	}
	return -1
}

// Join returns a schedule with one preemption less.
func Join(l []api.Pick, at int) ([]api.Pick, api.Errno) {
	l, e := Normal(l)
	if e != api.OK {
		return nil, e
	}
	if !isNumber(at, len(l)) || !isPreemption(l, at) {
		return nil, api.ErrNone
	}
	return joined(l, at), api.OK
}

// joined puts the next later pick of its thread directly behind a preemption.
func joined(l []api.Pick, at int) []api.Pick {
	next := later(l, at)
	return merged(slices.Concat(l[:at+1], l[next:next+1], l[at+1:next], l[next+1:]))
}

// joins gives the schedules with one preemption less, in the order of the preemptions.
func joins(l []api.Pick) iter.Seq[[]api.Pick] {
	return func(yield func([]api.Pick) bool) {
		for at := range l {
			if isPreemption(l, at) && !yield(joined(l, at)) {
				return
			}
		}
	}
}

// Schedule goes on with the minimization of the preemptions of a schedule.
func Schedule(l []api.Pick, answers []api.Verdict) (api.PickQuest, api.Errno) {
	l, e := Normal(l)
	if e != api.OK {
		return api.PickQuest{}, e
	}
	if len(l) > api.MaxItems {
		return api.PickQuest{}, api.ErrLimit
	}
	return replay(answers, pickText, askPicks, func(s *search[[]api.Pick]) (api.PickQuest, api.Errno) {
		if !s.fails(l) {
			return api.PickQuest{}, api.ErrNone
		}
		return api.PickQuest{Done: true, Picks: descended(l, joins, s.fails)}, api.OK
	})
}

// pickText writes a schedule in four bytes for each pick, which is enough for MaxThreads and MaxSteps.
func pickText(l []api.Pick) string {
	var text []byte
	for _, p := range l {
		text = append(text, byte(p.Thread), byte(p.Count>>16), byte(p.Count>>8), byte(p.Count))
	}
	return string(text)
}

func askPicks(l []api.Pick) api.PickQuest { return api.PickQuest{Picks: l} }

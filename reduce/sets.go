package reduce

import (
	"math/bits"
	"slices"

	"sleuth/api"
)

// searchSets goes through a search whose candidates are sets.
func searchSets(answers []api.Verdict, through func(s *search[set]) (api.Quest, api.Errno)) (api.Quest, api.Errno) {
	return replay(answers, set.text, askSet, through)
}

func askSet(s set) api.Quest { return api.Quest{Ask: s.list()} }

// items returns how many items there are, of which n is told.
func items(n int) (int, api.Errno) {
	if n > api.MaxItems {
		return 0, api.ErrLimit
	}
	return max(n, 0), api.OK
}

// Chunks returns l, cut into n consecutive chunks.
func Chunks(l []int, n int) [][]int {
	var all [][]int
	for chunk := range chunks(l, n) {
		all = append(all, slices.Clone(chunk))
	}
	return all
}

// List goes on with delta debugging over the set of n items.
func List(n int, answers []api.Verdict) (api.Quest, api.Errno) {
	n, e := items(n)
	if e != api.OK {
		return api.Quest{}, e
	}
	return searchSets(answers, func(s *search[set]) (api.Quest, api.Errno) {
		fails := func(l []int) bool { return s.fails(setOf(l...)) }
		all := until(n)
		if !fails(all) {
			return api.Quest{}, api.ErrNone
		}
		return api.Quest{Done: true, Kept: slices.Clone(minimized(all, fails))}, api.OK
	})
}

// Counted goes on with counter-based delta debugging over the set of n items.
func Counted(n, start int, answers []api.Verdict) (api.Quest, api.Errno) {
	n, e := items(n)
	if e != api.OK {
		return api.Quest{}, e
	}
	return searchSets(answers, func(s *search[set]) (api.Quest, api.Errno) {
		c := counters{kept: until(n), levels: make([]int, n), start: min(max(start, 1), api.MaxItems)}
		if !s.fails(setOf(c.kept...)) {
			return api.Quest{}, api.ErrNone
		}
		for {
			group := c.group()
			if len(group) == 0 {
				return api.Quest{Done: true, Kept: c.kept}, api.OK
			}
			if rest := without(c.kept, group); s.fails(setOf(rest...)) {
				c.keep(rest)
			} else {
				c.raise(group)
			}
		}
	})
}

// counters is the items that Counted keeps, and the levels of all items.
type counters struct {
	kept, levels []int
	start        int // the size of level 0
}

// last returns the lowest level of size 1. Each level has half the size of the one before it.
func (c *counters) last() int { return bits.Len(uint(c.start)) - 1 }

// group returns the items that are to be left out next, or none at the end.
func (c *counters) group() []int {
	lowest := c.last() + 1
	for _, item := range c.kept {
		lowest = min(lowest, c.levels[item])
	}
	if lowest > c.last() {
		return nil
	}
	var l []int
	for _, item := range c.kept {
		if c.levels[item] == lowest && len(l) < c.start>>lowest {
			l = append(l, item)
		}
	}
	return l
}

// keep keeps the rest, and gives another attempt to the items that had their last one.
func (c *counters) keep(rest []int) {
	c.kept = rest
	for _, item := range rest {
		c.levels[item] = min(c.levels[item], c.last())
	}
}

func (c *counters) raise(group []int) {
	for _, item := range group {
		c.levels[item]++
	}
}

// Removable looks for an element without which a set fails.
func Removable(kept []int, answers []api.Verdict) (api.Quest, api.Errno) {
	if !isSet(kept, api.MaxItems) {
		return api.Quest{}, api.ErrArg
	}
	return searchSets(answers, func(s *search[set]) (api.Quest, api.Errno) {
		all := setOf(kept...)
		for _, item := range kept {
			if s.fails(all.without(setOf(item))) {
				return api.Quest{Done: true, Kept: []int{item}}, api.OK
			}
		}
		return api.Quest{Done: true}, api.OK
	})
}

// Difference isolates a difference between a set that passes and a set that fails.
func Difference(n int, answers []api.Verdict) (api.Quest, api.Errno) {
	n, e := items(n)
	if e != api.OK {
		return api.Quest{}, e
	}
	return searchSets(answers, func(s *search[set]) (api.Quest, api.Errno) {
		b := bounds{fail: setOf(until(n)...), granularity: 2}
		if !s.passes(b.pass) || !s.fails(b.fail) {
			return api.Quest{}, api.ErrNone
		}
		for b.narrow(s) {
		}
		return api.Quest{Done: true, Pass: b.pass.list(), Kept: b.fail.list()}, api.OK
	})
}

// bounds is a set that passes within one that fails, and into how many chunks their difference is cut.
type bounds struct {
	pass, fail  set
	granularity int
}

// narrow makes the difference smaller, or cuts it finer, and reports whether it could do so.
func (b *bounds) narrow(s *search[set]) bool {
	between := b.fail.without(b.pass).list()
	if len(between) < 2 {
		return false
	}
	for chunk := range chunks(between, b.granularity) {
		if b.move(s, setOf(chunk...)) {
			return true
		}
	}
	finer := b.granularity < len(between)
	b.granularity = min(2*b.granularity, len(between))
	return finer
}

// move takes a chunk of the difference into the set that passes, or out of the set that fails, and reports whether it could do so.
func (b *bounds) move(s *search[set], chunk set) bool {
	more, less := b.pass.with(chunk), b.fail.without(chunk)
	with, rest := s.verdict(more), s.verdict(less)
	coarser := max(b.granularity-1, 2)
	switch {
	case with == api.VeFail:
		b.fail, b.granularity = more, 2
	case rest == api.VePass:
		b.pass, b.granularity = less, 2
	case with == api.VePass:
		b.pass, b.granularity = more, coarser
	case rest == api.VeFail:
		b.fail, b.granularity = less, coarser
	default:
		return false
	}
	return true
}

package reduce

import "sleuth/api"

// versionVerdict asks a version up to so many times, within the bounds that there are for that.
func versionVerdict(s *search[set], version, times int) api.Verdict {
	verdict := api.VeUnknown
	for range min(max(times, 1), api.MaxTimes) {
		switch s.answer(setOf(version)) {
		case api.VeFail:
			return api.VeFail
		case api.VePass:
			verdict = api.VePass
		}
	}
	return verdict
}

// Bisect goes on with the bisection of a linear history.
func Bisect(n, times int, answers []api.Verdict) (api.Quest, api.Errno) {
	if n < 2 {
		return api.Quest{}, api.ErrArg
	}
	if n > api.MaxItems {
		return api.Quest{}, api.ErrLimit
	}
	return searchSets(answers, func(s *search[set]) (api.Quest, api.Errno) {
		low, high := 0, n-1
		if versionVerdict(s, low, times) != api.VePass || versionVerdict(s, high, times) != api.VeFail {
			return api.Quest{}, api.ErrNone
		}
		var unknown set
		for {
			version, found := nearest(low, high, unknown)
			if !found {
				return api.Quest{Done: true, Kept: []int{low, high}}, api.OK
			}
			switch versionVerdict(s, version, times) {
			case api.VePass:
				low = version
			case api.VeFail:
				high = version
			default:
				unknown = unknown.with(setOf(version))
			}
		}
	})
}

// nearest returns the version between low and high that is nearest to their middle and not unknown, of two the higher one.
func nearest(low, high int, unknown set) (version int, found bool) {
	middle := (low + high) / 2
	for away := range high - low {
		for _, version := range [...]int{middle + away, middle - away} {
			if low < version && version < high && !unknown.has(version) {
				return version, true
			}
		}
	}
	return 0, false
}

// CheckHistory returns the first error of a history.
func CheckHistory(h api.History) api.Errno {
	if len(h.Parents) > api.MaxItems {
		return api.ErrLimit
	}
	for version, parents := range h.Parents {
		if !isSet(parents, version) {
			return api.ErrArg
		}
	}
	return api.OK
}

// Ancestors returns the ancestors of a version.
func Ancestors(h api.History, v int) ([]int, api.Errno) {
	if e := CheckHistory(h); e != api.OK {
		return nil, e
	}
	if !isNumber(v, len(h.Parents)) {
		return nil, api.ErrArg
	}
	return closures(h.Parents)[v].list(), api.OK
}

// Choose returns the candidate that divides the candidates best.
func Choose(h api.History, cand, skip []int) (int, api.Errno) {
	if e := CheckHistory(h); e != api.OK {
		return 0, e
	}
	if !isSet(cand, len(h.Parents)) || !isSet(skip, len(h.Parents)) {
		return 0, api.ErrArg
	}
	v, found := chosen(closures(h.Parents), setOf(cand...), setOf(skip...))
	if !found {
		return 0, api.ErrNone
	}
	return v, api.OK
}

// chosen returns the version among the candidates, but not among those to be skipped, that divides the candidates best.
func chosen(ancestors []set, candidates, skipped set) (version int, found bool) {
	best, all := -1, candidates.size()
	for _, v := range candidates.without(skipped).list() {
		below := candidates.within(ancestors[v]).size()
		if part := min(below, all-below); part > best {
			version, best = v, part
		}
	}
	return version, best >= 0
}

// Culprits goes on with the bisection of a history with branches.
func Culprits(h api.History, good []int, bad, times int, answers []api.Verdict) (api.Quest, api.Errno) {
	if e := CheckHistory(h); e != api.OK {
		return api.Quest{}, e
	}
	if !isSet(good, len(h.Parents)) || !isNumber(bad, len(h.Parents)) {
		return api.Quest{}, api.ErrArg
	}
	ancestors := closures(h.Parents)
	passing := closure(ancestors, good)
	if passing.has(bad) {
		return api.Quest{}, api.ErrClash
	}
	return searchSets(answers, func(s *search[set]) (api.Quest, api.Errno) {
		candidates, skipped := ancestors[bad].without(passing), setOf(bad)
		for {
			v, found := chosen(ancestors, candidates, skipped)
			if !found {
				return api.Quest{Done: true, Kept: candidates.list()}, api.OK
			}
			verdict := versionVerdict(s, v, times)
			skipped = skipped.with(setOf(v))
			switch verdict {
			case api.VeFail:
				candidates = candidates.within(ancestors[v])
			case api.VePass:
				candidates = candidates.without(ancestors[v])
			}
		}
	})
}

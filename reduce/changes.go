package reduce

import (
	"iter"
	"slices"

	"sleuth/api"
)

// CheckNeeds returns the first error of what changes need.
func CheckNeeds(needs [][]int) api.Errno {
	if len(needs) > api.MaxItems {
		return api.ErrLimit
	}
	for change, l := range needs {
		if !isSet(l, len(needs)) || slices.Contains(l, change) {
			return api.ErrArg
		}
	}
	return api.OK
}

// needed returns, for each change, the set of it and of what it needs, and checks that a list is a set of changes.
func needed(needs [][]int, changes []int) ([]set, api.Errno) {
	if e := CheckNeeds(needs); e != api.OK {
		return nil, e
	}
	if !isSet(changes, len(needs)) {
		return nil, api.ErrArg
	}
	return closures(needs), api.OK
}

// Close returns the smallest closed set that contains a set.
func Close(needs [][]int, set []int) ([]int, api.Errno) {
	all, e := needed(needs, set)
	if e != api.OK {
		return nil, e
	}
	return closure(all, set).list(), api.OK
}

// Without returns a closed set without an element and what needs it.
func Without(needs [][]int, set []int, i int) ([]int, api.Errno) {
	all, e := needed(needs, set)
	if e != api.OK {
		return nil, e
	}
	if closure(all, set) != setOf(set...) {
		return nil, api.ErrArg
	}
	if !slices.Contains(set, i) {
		return nil, api.ErrNone
	}
	return notNeeding(all, set, i).list(), api.OK
}

// notNeeding returns what is in a closed set and does not need a change.
func notNeeding(needed []set, closed []int, change int) set {
	var rest set
	for _, n := range closed {
		if !needed[n].has(change) {
			rest = rest.with(setOf(n))
		}
	}
	return rest
}

// Changes goes on with the minimization of a set of changes.
func Changes(needs [][]int, answers []api.Verdict) (api.Quest, api.Errno) {
	all := until(min(len(needs), api.MaxItems))
	needed, e := needed(needs, all)
	if e != api.OK {
		return api.Quest{}, e
	}
	smaller := func(changes set) iter.Seq[set] { return withoutEach(needed, changes.list()) }
	return searchSets(answers, func(s *search[set]) (api.Quest, api.Errno) {
		if !s.fails(setOf(all...)) {
			return api.Quest{}, api.ErrNone
		}
		return api.Quest{Done: true, Kept: descended(setOf(all...), smaller, s.fails).list()}, api.OK
	})
}

// withoutEach leaves out of a closed set each of its changes in turn, with what needs it.
func withoutEach(needed []set, closed []int) iter.Seq[set] {
	return func(yield func(set) bool) {
		for _, change := range closed {
			if !yield(notNeeding(needed, closed, change)) {
				return
			}
		}
	}
}

package rank

import (
	"cmp"
	"slices"

	"sleuth/api"
)

// isIncreasing reports whether each element of a list is greater than the one ahead of it.
func isIncreasing[E cmp.Ordered](l []E) bool {
	for i := range l {
		if i > 0 && l[i-1] >= l[i] {
			return false
		}
	}
	return true
}

// isSetBelow reports whether a list is a set of numbers from 0 to count - 1.
func isSetBelow(l []int, count int) bool {
	return isIncreasing(l) && (len(l) == 0 || l[0] >= 0 && l[len(l)-1] < count)
}

// asSet returns what is in a list, as a set.
func asSet[E cmp.Ordered](l []E) []E { return slices.Compact(slices.Sorted(slices.Values(l))) }

// has reports whether an element is in a set.
func has[E cmp.Ordered](set []E, x E) bool {
	_, found := slices.BinarySearch(set, x)
	return found
}

// compareSets compares two sets in the order of sets.
func compareSets[E cmp.Ordered](a, b []E) int {
	return cmp.Or(cmp.Compare(len(a), len(b)), slices.Compare(a, b))
}

// isSubset reports whether all elements of a set are in another one.
func isSubset[E cmp.Ordered](a, b []E) bool {
	return !slices.ContainsFunc(a, func(x E) bool { return !has(b, x) })
}

// hasSubset reports whether one of some sets is within a set.
func hasSubset[E cmp.Ordered](sets [][]E, of []E) bool {
	return slices.ContainsFunc(sets, func(s []E) bool { return isSubset(s, of) })
}

// CheckSets returns the first error of a list of sets.
func CheckSets(sets [][]int) api.Errno {
	if len(sets) > api.MaxSets {
		return api.ErrLimit
	}
	for _, s := range sets {
		if !isSetBelow(s, api.MaxParts) {
			return api.ErrArg
		}
	}
	return api.OK
}

// Smallest returns the smallest ones of some sets.
func Smallest(sets [][]int) ([][]int, api.Errno) {
	if e := CheckSets(sets); e != api.OK {
		return nil, e
	}
	var smallest [][]int
	for _, s := range slices.SortedFunc(slices.Values(sets), compareSets[int]) {
		if !hasSubset(smallest, s) {
			smallest = append(smallest, slices.Clone(s))
		}
	}
	return smallest, api.OK
}

// Conflicts returns the smallest sets of components that failing rows cover.
func Conflicts(s api.Spectrum) ([][]int, api.Errno) {
	if e := CheckSpectrum(s); e != api.OK {
		return nil, e
	}
	var sets [][]int
	for _, row := range s.Rows {
		if row.Fail {
			sets = append(sets, row.Hits)
		}
	}
	return Smallest(sets)
}

// Blame returns, for each set, how many passing rows cover one of its elements.
func Blame(s api.Spectrum, sets [][]int) ([]int, api.Errno) {
	if e := cmp.Or(CheckSpectrum(s), CheckSets(sets)); e != api.OK {
		return nil, e
	}
	var counts []int
	for _, set := range sets {
		if !isSetBelow(set, s.Parts) {
			return nil, api.ErrArg
		}
		n := 0
		for _, row := range s.Rows {
			if !row.Fail && slices.ContainsFunc(set, func(part int) bool { return has(row.Hits, part) }) {
				n++
			}
		}
		counts = append(counts, n)
	}
	return counts, api.OK
}

package rank

import (
	"math/bits"
	"slices"

	"sleuth/api"
)

// marks tells which ones of some sets are hit: a bit for each of them.
type marks [api.MaxSets / 64]uint64

func (m marks) with(n marks) marks {
	for i := range m {
		m[i] |= n[i]
	}
	return m
}

// first returns the number of the first set that is not hit; behind the last one, all numbers are of none.
func (m marks) first() int {
	for i, word := range m {
		if ^word != 0 {
			return 64*i + bits.TrailingZeros64(^word)
		}
	}
	return api.MaxSets
}

// hitBy returns which sets each element hits.
func hitBy(sets [][]int) []marks {
	by := make([]marks, api.MaxParts)
	for n, s := range sets {
		for _, x := range s {
			by[x][n/64] |= 1 << (n % 64)
		}
	}
	return by
}

// Hit returns the minimal hitting sets up to a size.
func Hit(sets [][]int, size int) ([][]int, api.Errno) {
	smallest, e := Smallest(sets)
	switch {
	case e != api.OK:
		return nil, e
	case size < 0:
		return nil, api.ErrArg
	case size > api.MaxCause:
		return nil, api.ErrLimit
	}
	found := hitting(smallest, size)
	if len(found) > api.MaxSets {
		return nil, api.ErrLimit
	}
	slices.SortFunc(found, compareSets[int])
	return found, api.OK
}

// hitting returns the minimal hitting sets up to a size, each once; of more than MaxSets, some that are more than MaxSets.
func hitting(sets [][]int, size int) [][]int {
	by := hitBy(sets)
	var chosen []int
	var found [][]int
	var search func(hit marks, barred [api.MaxParts]bool)
	search = func(hit marks, barred [api.MaxParts]bool) {
		open := hit.first()
		if open >= len(sets) && areNeeded(chosen, by, len(sets)) {
			found = append(found, asSet(chosen))
		}
		if open >= len(sets) || len(chosen) == size {
			return
		}
	branches:
		for _, x := range sets[open] {
			switch {
			case len(found) > api.MaxSets:
				break branches
			case barred[x]:
				continue branches
			}
			chosen = append(chosen, x)
			search(hit.with(by[x]), barred)
			chosen = chosen[:len(chosen)-1]
			barred[x] = true // what has x, too, has been found: so no set is found twice
		}
	}
	search(marks{}, [api.MaxParts]bool{})
	return found
}

// areNeeded reports whether no element of a hitting set of the first sets can be left out.
func areNeeded(chosen []int, by []marks, sets int) bool {
	for i := range chosen {
		var others marks
		for j, x := range chosen {
			if j != i {
				others = others.with(by[x])
			}
		}
		if others.first() >= sets {
			return false
		}
	}
	return true
}

// Suspects returns the minimal hitting sets of the conflicts.
func Suspects(s api.Spectrum, size int) ([][]int, api.Errno) {
	conflicts, e := Conflicts(s)
	if e != api.OK {
		return nil, e
	}
	return Hit(conflicts, size)
}

package reduce

import "iter"

// chunks cuts a list into n consecutive chunks.
func chunks[T any](l []T, n int) iter.Seq[[]T] {
	count := min(max(n, 1), len(l))
	return func(yield func([]T) bool) {
		for k := range count {
			if !yield(l[k*len(l)/count : (k+1)*len(l)/count]) {
				return
			}
		}
	}
}

// complements leaves out each of n chunks of a set in turn.
func complements[T comparable](set []T, n int) iter.Seq[[]T] {
	return func(yield func([]T) bool) {
		for chunk := range chunks(set, n) {
			if !yield(without(set, chunk)) {
				return
			}
		}
	}
}

// without returns a set without a part of it, which is in the same order.
func without[T comparable](set, part []T) []T {
	var rest []T
	for _, x := range set {
		if len(part) > 0 && x == part[0] {
			part = part[1:]
		} else {
			rest = append(rest, x)
		}
	}
	return rest
}

// failing returns the first candidate that fails.
func failing[C any](candidates iter.Seq[C], fails func(C) bool) (c C, found bool) {
	for c := range candidates {
		if fails(c) {
			return c, true
		}
	}
	return c, false
}

// descended goes from a candidate to the first of its smaller ones that fails, from there on in the same way, and returns the one that has none.
func descended[C any](c C, smaller func(C) iter.Seq[C], fails func(C) bool) C {
	for {
		next, found := failing(smaller(c), fails)
		if !found {
			return c
		}
		c = next
	}
}

// minimized is what List does in its steps 2 and 3, with a set of anything that is numbered, in that order.
func minimized[T comparable](set []T, fails func([]T) bool) []T {
	granularity := 2
	for len(set) > 1 {
		if chunk, found := failing(chunks(set, granularity), fails); found {
			set, granularity = chunk, 2
		} else if rest, found := failing(complements(set, granularity), fails); found {
			set, granularity = rest, max(granularity-1, 2)
		} else if granularity < len(set) {
			granularity = min(2*granularity, len(set))
		} else {
			break
		}
	}
	if len(set) == 1 && fails(nil) {
		return nil
	}
	return set
}

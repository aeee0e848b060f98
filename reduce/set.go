package reduce

import (
	"math/bits"

	"sleuth/api"
)

// set is a set of items, versions or changes: a bit for each of them.
type set [api.MaxItems / 64]uint64

func setOf(numbers ...int) set {
	var s set
	for _, n := range numbers {
		s[n/64] |= 1 << (n % 64)
	}
	return s
}

func (s set) has(n int) bool { return s[n/64]>>(n%64)&1 == 1 }

// with returns what is in s or in t.
func (s set) with(t set) set {
	for i := range s {
		s[i] |= t[i]
	}
	return s
}

// without returns what is in s and not in t.
func (s set) without(t set) set {
	for i := range s {
		s[i] &^= t[i]
	}
	return s
}

// within returns what is in s and in t.
func (s set) within(t set) set {
	for i := range s {
		s[i] &= t[i]
	}
	return s
}

func (s set) size() int {
	n := 0
	for _, word := range s {
		n += bits.OnesCount64(word)
	}
	return n
}

// list returns what is in a set, ascending.
func (s set) list() []int {
	var l []int
	for n := range api.MaxItems {
		if s.has(n) {
			l = append(l, n)
		}
	}
	return l
}

// text writes a set in one byte for each eight numbers.
func (s set) text() string {
	var text []byte
	for _, word := range s {
		for at := 0; at < 64; at += 8 {
			text = append(text, byte(word>>at))
		}
	}
	return string(text)
}

// until returns the numbers from 0 to n - 1.
func until(n int) []int {
	var l []int
	for i := range n {
		l = append(l, i)
	}
	return l
}

// isSet reports whether a list is a set of numbers from 0 to below - 1.
func isSet(l []int, below int) bool {
	for i, n := range l {
		if n < 0 || n >= below || i > 0 && n <= l[i-1] {
			return false
		}
	}
	return true
}

// isNumber reports whether n is one of so many things that are numbered from 0 on.
func isNumber(n, count int) bool { return 0 <= n && n < count }

// closures returns, for each number, the set of it and of those to which it leads, directly or through others.
func closures(leads [][]int) []set {
	all := make([]set, len(leads))
	for n, l := range leads {
		all[n] = setOf(l...).with(setOf(n))
	}
	for through := range all {
		for n := range all {
			if all[n].has(through) {
				all[n] = all[n].with(all[through])
			}
		}
	}
	return all
}

// closure returns the union of the closures of some numbers.
func closure(all []set, of []int) set {
	var s set
	for _, n := range of {
		s = s.with(all[n])
	}
	return s
}

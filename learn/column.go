package learn

import "slices"

// manyValues is how many different values are more than a claim can name.
const manyValues = 4

// few is the different ones of some numbers, in ascending order; those that come behind the first manyValues are not kept.
type few struct {
	values [manyValues]int64
	count  int
}

func (f *few) known() []int64 { return f.values[:f.count] }

func (f *few) areMany() bool { return f.count == manyValues }

func (f *few) note(n int64) {
	if f.areMany() || slices.Contains(f.known(), n) {
		return
	}
	f.values[f.count] = n
	f.count++
	slices.Sort(f.known())
}

// span is the least and the greatest one of some numbers, and the greatest common divisor of all their differences (0 if they are all equal).
type span struct{ least, greatest, step int64 }

func (s *span) isConstant() bool { return s.least == s.greatest }

// widen takes in a number that differs by a multiple of a step from others.
func (s *span) widen(n, step int64) {
	s.step = divisor(divisor(s.step, step), n-s.least)
	s.least = min(s.least, n)
	s.greatest = max(s.greatest, n)
}

// divisor returns the greatest common divisor of two numbers that are not the least one.
func divisor(a, b int64) int64 {
	for b != 0 {
		a, b = b, a%b
	}
	return max(a, -a)
}

// column is what a miner keeps of a variable.
type column struct {
	few
	span
	zero bool // whether it was 0
}

func (c *column) add(n int64) {
	if c.count == 0 {
		c.span = span{n, n, 0}
	}
	c.note(n)
	c.widen(n, 0)
	c.zero = c.zero || n == 0
}

// merge adds what another column, which is not empty, was given.
func (c *column) merge(o column) {
	for _, n := range o.known() {
		c.add(n)
	}
	c.widen(o.least, o.step)
	c.widen(o.greatest, o.step)
	c.zero = c.zero || o.zero
}

// claims returns the claims about the values of a variable that is not without any.
func (c *column) claims(of single) []claim {
	if c.isConstant() {
		return []claim{constant{of, c.least}}
	}
	l := []claim{low{of, c.least}, high{of, c.greatest}}
	if !c.areMany() {
		l = append(l, oneOf{of, slices.Clone(c.known())})
	}
	if !c.zero && c.least < 0 && c.greatest > 0 {
		l = append(l, nonzero{of})
	}
	if c.areMany() && c.step >= 2 {
		l = append(l, modulo{of, residue(c.least, c.step), c.step})
	}
	return l
}

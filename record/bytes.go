package record

import (
	"bytes"
	"slices"

	"sleuth/api"
)

const (
	signature = "SLOG\x01" // the first bytes of every log
	sumSize   = 8
	checkSize = 4
)

// check returns the check of some bytes.
func check(b []byte) []byte {
	sum := uint64(14695981039346656037)
	for _, c := range b {
		sum = (sum ^ uint64(c)) * 1099511628211
	}
	return appendFixed(nil, sum, checkSize)
}

// appendFixed appends the lowest bytes of a number.
func appendFixed(b []byte, n uint64, size int) []byte {
	for range size {
		b = append(b, byte(n))
		n >>= 8
	}
	return b
}

// appendNumber appends a number as a varint.
func appendNumber(b []byte, n uint64) []byte {
	for n >= 128 {
		b = append(b, byte(n)|128)
		n >>= 7
	}
	return append(b, byte(n))
}

func appendCount(b []byte, n int) []byte { return appendNumber(b, uint64(n)) }

func appendValues(b []byte, list []int64) []byte {
	b = appendCount(b, len(list))
	for _, v := range list {
		b = appendNumber(b, folded(v))
	}
	return b
}

// folded returns the number for which an input or clock value stands: even ones are not negative.
func folded(v int64) uint64 {
	if v < 0 {
		return 2*uint64(-(v+1)) + 1
	}
	return 2 * uint64(v)
}

func unfolded(n uint64) int64 {
	if n%2 == 1 {
		return -int64(n/2) - 1
	}
	return int64(n / 2)
}

// Encode returns the bytes of a log: P3.4.
func Encode(l api.Log) ([]byte, api.Errno) {
	if e := Shape(l); e != api.OK {
		return nil, e
	}
	b := appendCount([]byte(signature), l.Steps)
	b = appendCount(b, len(l.Picks))
	for _, x := range l.Picks {
		b = appendCount(appendCount(b, x.Thread), x.Count)
	}
	b = appendValues(b, l.Inputs)
	b = appendValues(b, l.Clocks)
	b = appendFixed(b, l.Sum, sumSize)
	return append(b, check(b)...), api.OK
}

// Decode returns the log with some bytes: P3.4.
func Decode(b []byte) (api.Log, api.Errno) {
	end := len(b) - checkSize
	if end < 0 {
		return api.Log{}, api.ErrForm
	}
	if !bytes.Equal(check(b[:end]), b[end:]) {
		return api.Log{}, api.ErrSum
	}
	l, ok := decoded(b[:end])
	if !ok {
		return api.Log{}, api.ErrForm
	}
	// The limits, and that no number has a byte too many, are left to Encode.
	if again, e := Encode(l); e != api.OK || !bytes.Equal(again, b) {
		return api.Log{}, api.ErrForm
	}
	return l, api.OK
}

// decoded returns the only log whose bytes, but for the check, these can be.
func decoded(b []byte) (api.Log, bool) {
	rest, ok := bytes.CutPrefix(b, []byte(signature))
	if !ok {
		return api.Log{}, false
	}
	c := cutter{rest: rest}
	steps, lists := c.count(), c.lists()
	if c.wrong || len(c.rest) != sumSize {
		return api.Log{}, false
	}
	return api.Log{Picks: picks(lists[0]), Inputs: values(lists[1]), Clocks: values(lists[2]), Steps: steps, Sum: fixed(c.cut(sumSize))}, true
}

// cutter cuts numbers off the beginning of some bytes, until something is wrong with these.
type cutter struct {
	rest  []byte
	wrong bool
}

// cut cuts bytes off, of which there are enough, and copies them.
func (c *cutter) cut(n int) []byte {
	part := make([]byte, n)
	copy(part, c.rest[:n:n])
	c.rest = c.rest[n:]
	return part
}

// number cuts a varint off.
func (c *cutter) number() uint64 {
	last := slices.IndexFunc(c.rest, func(b byte) bool { return b < 128 })
	if last < 0 {
		c.wrong = true
		return 0
	}
	n := uint64(0)
	for i, b := range c.cut(last + 1) {
		n |= uint64(b&127) << (7 * i)
	}
	return n
}

// count cuts a number off that no log has above MaxSteps.
func (c *cutter) count() int {
	n := c.number()
	if n > api.MaxSteps {
		c.wrong = true
		return 0
	}
	return int(n)
}

// lists cuts the picks, inputs and clock values off, each list behind its length; a pick is two numbers.
func (c *cutter) lists() [3][]uint64 {
	var lists [3][]uint64
reading:
	for i, width := range [...]int{2, 1, 1} {
		for range width * c.count() {
			n := c.number()
			if c.wrong {
				break reading
			}
			lists[i] = append(lists[i], n)
		}
	}
	return lists
}

func picks(numbers []uint64) []api.Pick {
	var list []api.Pick
	for x := range slices.Chunk(numbers, 2) {
		list = append(list, api.Pick{Thread: int(x[0]), Count: int(x[1])})
	}
	return list
}

func values(numbers []uint64) []int64 {
	var list []int64
	for _, n := range numbers {
		list = append(list, unfolded(n))
	}
	return list
}

// fixed returns the number whose lowest bytes these are.
func fixed(b []byte) uint64 {
	n := uint64(0)
	for i, c := range b {
		n |= uint64(c) << (8 * i)
	}
	return n
}

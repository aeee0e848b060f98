package record_test

import (
	"bytes"
	"encoding/binary"
	"hash/fnv"
	"math"
	"math/rand"
	"slices"
	"testing"

	"sleuth/api"
	"sleuth/record"
)

// closed appends the check to bytes.
func closed(b []byte) []byte {
	h := fnv.New64a()
	h.Write(b)
	return binary.LittleEndian.AppendUint32(slices.Clone(b), uint32(h.Sum64()))
}

// written returns the bytes of a log: the tests' own reading of the chapter, for any log.
func written(l api.Log) []byte {
	b := append([]byte{83, 76, 79, 71, 1}, binary.AppendUvarint(nil, uint64(l.Steps))...)
	b = binary.AppendUvarint(b, uint64(len(l.Picks)))
	for _, x := range l.Picks {
		b = binary.AppendUvarint(binary.AppendUvarint(b, uint64(x.Thread)), uint64(x.Count))
	}
	for _, list := range [][]int64{l.Inputs, l.Clocks} {
		b = binary.AppendUvarint(b, uint64(len(list)))
		for _, v := range list {
			b = binary.AppendVarint(b, v)
		}
	}
	return closed(binary.LittleEndian.AppendUint64(b, l.Sum))
}

func encoded(t *testing.T, l api.Log) []byte {
	t.Helper()
	b, e := record.Encode(l)
	if e != api.OK {
		t.Fatalf("Encode: error %d", e)
	}
	return b
}

// P3.4: the bytes of logs, byte by byte.
func TestEncode(t *testing.T) {
	l := api.Log{Picks: turns("0*4 3*300 1*2"), Inputs: []int64{5, -1, 64}, Clocks: []int64{-64}, Steps: 306, Sum: 0x8102030405060708}
	want := closed([]byte{'S', 'L', 'O', 'G', 1, 0xb2, 2, 3, 0, 4, 3, 0xac, 2, 1, 2, 3, 10, 1, 0x80, 1, 1, 127, 8, 7, 6, 5, 4, 3, 2, 0x81})
	if b := encoded(t, l); !bytes.Equal(b, want) {
		t.Errorf("% x, not % x", b, want)
	}
	want = closed([]byte{'S', 'L', 'O', 'G', 1, 0, 0, 0, 0, 0, 0, 0, 0, 0, 0, 0, 0})
	if b := encoded(t, api.Log{}); !bytes.Equal(b, want) {
		t.Errorf("no steps: % x, not % x", b, want)
	}
	// the check of no bytes is known, and so is how it stands at the end
	if b := encoded(t, api.Log{}); binary.LittleEndian.Uint32(b[len(b)-4:]) != uint32(sum(b[:len(b)-4])) {
		t.Errorf("the check: % x", b)
	}
}

// sum is the FNV-1a sum as chapter 1 tells it.
func sum(b []byte) uint64 {
	n := uint64(14695981039346656037)
	for _, c := range b {
		n = (n ^ uint64(c)) * 1099511628211
	}
	return n
}

// ends returns numbers at which varints become longer, on both sides of 0.
func ends() []int64 {
	l := []int64{0, math.MaxInt64, math.MinInt64, math.MinInt64 + 1, math.MaxInt64 - 1}
	for shift := 0; shift < 63; shift++ {
		n := int64(1) << shift
		l = append(l, n-1, n, n+1, -n-1, -n, -n+1)
	}
	return l
}

// P3.4: numbers of all lengths, and counts of all lengths.
func TestEncodeNumbers(t *testing.T) {
	l := api.Log{Inputs: ends(), Clocks: ends()}
	slices.Reverse(l.Clocks)
	for _, count := range []int{1, 127, 128, 129, 16383, 16384, 16385, api.MaxSteps} {
		l.Picks, l.Steps = []api.Pick{{Thread: 7, Count: count}}, count
		checkBytes(t, l)
	}
	for _, n := range []int{127, 128, 129, api.MaxGiven} {
		l.Inputs, l.Clocks = make([]int64, n), make([]int64, api.MaxGiven+1-n)
		checkBytes(t, l)
	}
	l.Picks, l.Steps = alternating(api.MaxSteps), api.MaxSteps
	l.Sum = 1<<64 - 1
	checkBytes(t, l)
}

// checkBytes checks the bytes of a log, and that they are read as that log.
func checkBytes(t *testing.T, l api.Log) {
	t.Helper()
	b := encoded(t, l)
	if !bytes.Equal(b, written(l)) {
		t.Errorf("the bytes of a log of %d steps: % x", l.Steps, b[:min(len(b), 50)])
	}
	if again, e := record.Decode(b); e != api.OK || !sameLog(again, l) {
		t.Errorf("a log of %d steps is read again: error %d", l.Steps, e)
	}
}

// P3.4, P3.12: the bytes of random logs.
func TestBytesRandom(t *testing.T) {
	runs(t, 20, func(r *rand.Rand, _ api.Program, _ api.Given, h history) {
		checkBytes(t, h.log(r.Intn(h.end()+1)))
	})
}

// P3.4: what Decode says of bytes that are too few, or have another check.
func TestDecodeCheck(t *testing.T) {
	decode := func(b []byte, want api.Errno) {
		t.Helper()
		if l, e := record.Decode(b); e != want || !isEmptyLog(l) {
			t.Errorf("% x: error %d, %+v", b, e, l)
		}
	}
	decode(nil, api.ErrForm)
	decode([]byte{}, api.ErrForm)
	decode([]byte("SLO"), api.ErrForm)
	decode([]byte("SLOG"), api.ErrSum)
	decode([]byte{0x25, 0x23, 0x22, 0x84}, api.ErrForm) // the check of no bytes
	decode([]byte{0x84, 0x22, 0x23, 0x25}, api.ErrSum)
	decode([]byte{0, 0, 0, 0}, api.ErrSum)
	decode([]byte("SLOG\x01"), api.ErrSum)
	b := encoded(t, api.Log{Picks: turns("0*4 1*2"), Inputs: []int64{5, 1 << 40}, Clocks: []int64{-6}, Steps: 6, Sum: 1 << 62})
	for i := range b {
		for bit := range 8 {
			other := slices.Clone(b)
			other[i] ^= 1 << bit
			decode(other, api.ErrSum)
		}
		if i >= 4 {
			decode(b[:i], api.ErrSum)
		}
	}
	decode(append(b, 0), api.ErrSum)
	decode(append([]byte{0}, b...), api.ErrSum)
}

// P3.4: bytes with their check that are those of no log.
func TestDecodeForm(t *testing.T) {
	good := api.Log{Picks: turns("0*4 1*2"), Inputs: []int64{5, -300}, Clocks: []int64{-6}, Steps: 6, Sum: 1 << 62}
	whole := encoded(t, good)
	body := whole[:len(whole)-4]
	decode := func(what string, b []byte) {
		t.Helper()
		if l, e := record.Decode(closed(b)); e != api.ErrForm || !isEmptyLog(l) {
			t.Errorf("%s: % x: error %d, %+v", what, b[:min(len(b), 60)], e, l)
		}
	}
	if l, e := record.Decode(closed(body)); e != api.OK || !sameLog(l, good) {
		t.Fatalf("the log itself: error %d, %+v", e, l)
	}
	for n := range body {
		decode("cut", body[:n])
		decode("without the beginning", body[n+1:])
		decode("with a 0 more", slices.Insert(slices.Clone(body), n+1, 0))
		if n < 5 {
			for c := range 256 {
				other := slices.Clone(body)
				if other[n] = byte(c); !bytes.Equal(other, body) {
					decode("another beginning", other)
				}
			}
		}
	}
	// without inputs and clock values, any byte more or less leaves no log
	bare := encoded(t, api.Log{Picks: turns("0*4 1*2"), Steps: 6, Sum: 1 << 62})
	bare = bare[:len(bare)-4]
	for n := range bare {
		decode("without a byte", slices.Delete(slices.Clone(bare), n, n+1))
		decode("with a byte more", slices.Insert(slices.Clone(bare), n, 0x80))
	}
}

// P3.4: numbers in more bytes than they need, and numbers of more than 64 bits.
func TestDecodeVarints(t *testing.T) {
	// steps, picks, thread, count, inputs, the input, clock values, the clock value
	fields := [][]byte{{2}, {1}, {0}, {2}, {1}, {4}, {1}, {3}}
	decode := func(at int, number []byte) (api.Log, api.Errno) {
		f := slices.Clone(fields)
		f[at] = number
		b := append([]byte("SLOG\x01"), slices.Concat(f...)...)
		return record.Decode(closed(append(b, 1, 2, 3, 4, 5, 6, 7, 8)))
	}
	want := api.Log{Picks: turns("0*2"), Inputs: []int64{2}, Clocks: []int64{-2}, Steps: 2, Sum: 0x0807060504030201}
	for at, f := range fields {
		if l, e := decode(at, f); e != api.OK || !sameLog(l, want) {
			t.Fatalf("error %d, %+v", e, l)
		}
		isValue := at == 5 || at == 7
		for _, length := range []int{2, 3, 9, 10, 11, 12, 300} {
			for _, last := range []byte{0, 1, 2, 127} {
				number := append(append([]byte{f[0] | 128}, slices.Repeat([]byte{128}, length-2)...), last)
				fits := isValue && last > 0 && (length < 10 || length == 10 && last == 1)
				l, e := decode(at, number)
				if fits != (e == api.OK) || !fits && (e != api.ErrForm || !isEmptyLog(l)) {
					t.Errorf("number %d is % x: error %d, %+v", at, number[:min(len(number), 12)], e, l)
				}
			}
		}
	}
	if l, e := decode(5, []byte{255, 255, 255, 255, 255, 255, 255, 255, 255, 1}); e != api.OK || l.Inputs[0] != math.MinInt64 {
		t.Errorf("the least number: error %d, %+v", e, l)
	}
	if l, e := decode(7, []byte{254, 255, 255, 255, 255, 255, 255, 255, 255, 1}); e != api.OK || l.Clocks[0] != math.MaxInt64 {
		t.Errorf("the greatest number: error %d, %+v", e, l)
	}
}

// P3.4: logs that are not well formed are those of no bytes.
func TestDecodeShape(t *testing.T) {
	given := func(n int) []int64 { return make([]int64, n) }
	for _, x := range []struct {
		log  api.Log
		want api.Errno
	}{
		{api.Log{}, api.OK},
		{api.Log{Picks: turns("7*1"), Steps: 1}, api.OK},
		{api.Log{Picks: turns("0*65536"), Steps: api.MaxSteps, Inputs: given(api.MaxGiven), Clocks: given(api.MaxGiven)}, api.OK},
		{api.Log{Picks: alternating(api.MaxSteps), Steps: api.MaxSteps}, api.OK},
		{api.Log{Picks: turns("8*1"), Steps: 1}, api.ErrForm},
		{api.Log{Picks: turns("-1*1"), Steps: 1}, api.ErrForm},
		{api.Log{Picks: turns("0*0")}, api.ErrForm},
		{api.Log{Picks: turns("0*3 1*-1"), Steps: 2}, api.ErrForm},
		{api.Log{Picks: turns("0*1 0*1"), Steps: 2}, api.ErrForm},
		{api.Log{Picks: turns("0*1"), Steps: 2}, api.ErrForm},
		{api.Log{Picks: turns("0*1")}, api.ErrForm},
		{api.Log{Steps: 1}, api.ErrForm},
		{api.Log{Steps: -1}, api.ErrForm},
		{api.Log{Picks: turns("0*65537"), Steps: api.MaxSteps + 1}, api.ErrForm},
		{api.Log{Picks: turns("0*65536 1*1"), Steps: api.MaxSteps + 1}, api.ErrForm},
		{api.Log{Picks: alternating(api.MaxSteps + 1), Steps: api.MaxSteps + 1}, api.ErrForm},
		{api.Log{Inputs: given(api.MaxGiven + 1)}, api.ErrForm},
		{api.Log{Clocks: given(api.MaxGiven + 1)}, api.ErrForm},
		{api.Log{Inputs: given(1 << 17)}, api.ErrForm},
	} {
		l, e := record.Decode(written(x.log))
		if e != x.want || e == api.OK && !sameLog(l, x.log) || e != api.OK && !isEmptyLog(l) {
			t.Errorf("%d picks, %d steps: error %d", len(x.log.Picks), x.log.Steps, e)
		}
	}
	// counts that promise far more than there is
	for _, n := range []uint64{5, 1 << 20, 1 << 31, 1 << 62, 1<<63 - 1, 1 << 63, 1<<64 - 1} {
		for at := range 4 {
			b := append([]byte("SLOG\x01"), make([]byte, at)...)
			b = append(binary.AppendUvarint(b, n), make([]byte, 12)...)
			if l, e := record.Decode(closed(b)); e != api.ErrForm || !isEmptyLog(l) {
				t.Errorf("the count %d at %d: error %d, %+v", n, at, e, l)
			}
		}
	}
}

// P3.4, P3.12: of disturbed bytes with their check, Decode accepts just those that Encode returns for the log.
func TestDecodeRandom(t *testing.T) {
	accepted, refused := 0, 0
	runs(t, 60, func(r *rand.Rand, _ api.Program, _ api.Given, h history) {
		b := encoded(t, h.log(r.Intn(min(h.end(), 12)+1)))
		b = slices.Clone(b[:len(b)-4])
		for range 1 + r.Intn(3) {
			i := 5 + r.Intn(len(b)-5)
			switch r.Intn(4) {
			case 0:
				b = slices.Delete(b, i, i+1)
			case 1:
				b = slices.Insert(b, i, byte(r.Intn(256)))
			default:
				b[i] = byte(r.Intn(256)) >> r.Intn(8)
			}
		}
		l, e := record.Decode(closed(b))
		switch {
		case e == api.OK:
			accepted++
			if again, e := record.Encode(l); e != api.OK || !bytes.Equal(again, closed(b)) {
				t.Errorf("% x: read as %+v, whose bytes are % x", b, l, again)
			}
		case e != api.ErrForm || !isEmptyLog(l):
			t.Errorf("% x: error %d, %+v", b, e, l)
		default:
			refused++
		}
	})
	if accepted < 100 || refused < 100 {
		t.Errorf("%d accepted, %d refused", accepted, refused)
	}
}

// R4: Encode and Decode change no argument, and their results are new memory.
func TestBytesApart(t *testing.T) {
	l := api.Log{Picks: turns("0*4 1*2"), Inputs: []int64{5, -300}, Clocks: []int64{-6}, Steps: 6, Sum: 7}
	b := encoded(t, l)
	want := slices.Clone(b)
	room := append(slices.Clone(b), 77, 78, 79, 80)[:len(b)] // with bytes behind its end, which are not for Decode
	k, e := record.Decode(room)
	if e != api.OK || !bytes.Equal(room[:len(b)+4], append(slices.Clone(want), 77, 78, 79, 80)) {
		t.Fatalf("error %d: % x", e, room[:len(b)+4])
	}
	other, _ := record.Decode(room)
	clear(room)
	if !sameLog(k, l) {
		t.Errorf("a log changes with its bytes: %+v", k)
	}
	spoilLog(k)
	if !sameLog(other, l) {
		t.Errorf("two logs share memory: %+v", other)
	}
	again := encoded(t, l)
	clear(again[:cap(again)])
	if !bytes.Equal(b, want) || !bytes.Equal(encoded(t, l), want) || !sameLog(l, other) {
		t.Errorf("two results share memory, or an argument is changed")
	}
}

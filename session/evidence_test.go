package session_test

import (
	"bytes"
	"encoding/binary"
	"hash/fnv"
	"math/rand"
	"reflect"
	"slices"
	"testing"

	"sleuth/api"
	"sleuth/session"
)

// modelBytes writes any value as the chapter says.
func modelBytes(v reflect.Value) []byte {
	number := func(n uint64) []byte { return binary.LittleEndian.AppendUint64(nil, n) }
	var b []byte
	switch v.Kind() {
	case reflect.Struct:
		for i := range v.NumField() {
			b = append(b, modelBytes(v.Field(i))...)
		}
	case reflect.Slice:
		b = number(uint64(v.Len()))
		for i := range v.Len() {
			b = append(b, modelBytes(v.Index(i))...)
		}
	case reflect.String:
		b = append(number(uint64(v.Len())), v.String()...)
	case reflect.Int, reflect.Int64:
		b = number(uint64(v.Int()))
	default:
		b = number(v.Uint())
	}
	return b
}

// fill puts random content into a value, and into what is in it.
func fill(r *rand.Rand, v reflect.Value, deep int) {
	switch v.Kind() {
	case reflect.Struct:
		for i := range v.NumField() {
			fill(r, v.Field(i), deep)
		}
	case reflect.Slice:
		n := 0
		if deep > 0 {
			n = r.Intn(3)
		}
		if n > 0 || r.Intn(2) == 0 { // nil, or empty
			v.Set(reflect.MakeSlice(v.Type(), n, n))
		}
		for i := range n {
			fill(r, v.Index(i), deep-1)
		}
	case reflect.String:
		v.SetString([]string{"", "a", "ab", "\x00\xff", "fun main() {\n}\n"}[r.Intn(5)])
	case reflect.Int, reflect.Int64:
		v.SetInt([]int64{0, 1, -1, 300, 1<<63 - 1, -1 << 63}[r.Intn(6)])
	default:
		v.SetUint([]uint64{0, 1, 9, 255}[r.Intn(4)])
	}
}

func randomEvidence(r *rand.Rand) api.Evidence {
	var x api.Evidence
	fill(r, reflect.ValueOf(&x).Elem(), 4)
	return x
}

// spots calls a function at each number and string in a value, and with each list.
func spots(v reflect.Value, each func(v reflect.Value)) {
	switch v.Kind() {
	case reflect.Struct:
		for i := range v.NumField() {
			spots(v.Field(i), each)
		}
	case reflect.Slice:
		each(v)
		for i := range v.Len() {
			spots(v.Index(i), each)
		}
	default:
		each(v)
	}
}

// shift changes a number or a string, or makes a list one longer.
func shift(v reflect.Value) {
	switch v.Kind() {
	case reflect.Slice:
		v.Set(reflect.Append(v, reflect.New(v.Type().Elem()).Elem()))
	case reflect.String:
		v.SetString(v.String() + "x")
	case reflect.Int, reflect.Int64:
		v.SetInt(v.Int() + 1)
	default:
		v.SetUint((v.Uint() + 1) % 256)
	}
}

// sameModel reports whether two values are equal, a nil list and an empty one too.
func sameModel(a, b reflect.Value) bool {
	switch a.Kind() {
	case reflect.Struct:
		for i := range a.NumField() {
			if !sameModel(a.Field(i), b.Field(i)) {
				return false
			}
		}
		return true
	case reflect.Slice:
		if a.Len() != b.Len() {
			return false
		}
		for i := range a.Len() {
			if !sameModel(a.Index(i), b.Index(i)) {
				return false
			}
		}
		return true
	}
	return a.Equal(b)
}

func areSame(a, b api.Evidence) bool { return sameModel(reflect.ValueOf(a), reflect.ValueOf(b)) }

// P10.1, P10.5: the bytes of an evidence, its digest, and which pieces of evidence are equal.
func TestBytes(t *testing.T) {
	r := rand.New(rand.NewSource(1))
	pieces := every(t)
	for range 150 {
		pieces = append(pieces, randomEvidence(r))
	}
	pieces = append(pieces, api.Evidence{})
	texts := map[string]api.Evidence{}
	for _, x := range pieces {
		b := session.Bytes(x)
		if !bytes.Equal(b, modelBytes(reflect.ValueOf(x))) {
			t.Fatalf("Bytes(%+v) returns %v", x, b)
		}
		sum := fnv.New64a()
		sum.Write(b)
		if d := session.Digest(x); d != sum.Sum64() {
			t.Errorf("Digest(%+v) returns %x", x, d)
		}
		y, seen := texts[string(b)]
		if seen && !areSame(x, y) {
			t.Errorf("%+v and %+v have equal bytes", x, y)
		}
		texts[string(b)] = x
	}
	for _, x := range pieces[:40] {
		for _, y := range pieces {
			if session.Same(x, y) != areSame(x, y) || bytes.Equal(session.Bytes(x), session.Bytes(y)) != areSame(x, y) {
				t.Errorf("Same(%+v, %+v) returns %t", x, y, session.Same(x, y))
			}
		}
	}
}

// P10.5, P10.1: an evidence that is other in a single number, string or list is another one.
func TestOtherFields(t *testing.T) {
	r := rand.New(rand.NewSource(2))
	changes := 0
	for _, x := range append(every(t), randomEvidence(r), randomEvidence(r), randomEvidence(r), api.Evidence{}) {
		before := session.Bytes(x)
		count := 0
		spots(reflect.ValueOf(&x).Elem(), func(reflect.Value) { count++ })
		for n := range count {
			y := cloned(x)
			i := 0
			spots(reflect.ValueOf(&y).Elem(), func(v reflect.Value) {
				if i == n {
					shift(v)
				}
				i++
			})
			changes++
			if session.Same(x, y) || session.Same(y, x) || bytes.Equal(before, session.Bytes(y)) || session.Digest(x) == session.Digest(y) {
				t.Errorf("%+v and %+v are told to be equal", x, y)
			}
		}
		if y := cloned(x); !session.Same(x, y) || session.Digest(x) != session.Digest(y) {
			t.Errorf("%+v and its copy are told to be unequal", x)
		}
	}
	if changes < 300 {
		t.Error("too few cases:", changes)
	}
}

// cloned returns a copy that shares no memory; nil lists become empty ones, and the other way round.
func cloned(x api.Evidence) api.Evidence {
	var y api.Evidence
	clone(reflect.ValueOf(&y).Elem(), reflect.ValueOf(x))
	return y
}

func clone(to, from reflect.Value) {
	switch from.Kind() {
	case reflect.Struct:
		for i := range from.NumField() {
			clone(to.Field(i), from.Field(i))
		}
	case reflect.Slice:
		if from.Len() > 0 || from.IsNil() {
			to.Set(reflect.MakeSlice(from.Type(), from.Len(), from.Len()))
		}
		for i := range from.Len() {
			clone(to.Index(i), from.Index(i))
		}
	default:
		to.Set(from)
	}
}

// P10.1: some bytes by hand: each length stands ahead of what it counts, and negative numbers are 2^64 greater.
func TestBytesByHand(t *testing.T) {
	if b := session.Bytes(api.Evidence{}); len(b) != 13*8 || !bytes.Equal(b, make([]byte, 13*8)) {
		t.Error("without anything:", b)
	}
	if d := session.Digest(api.Evidence{}); d == 0 || d == 14695981039346656037 {
		t.Error("the digest without anything:", d)
	}
	x := api.Evidence{
		Kind: 255, Program: "ab", Logs: []api.Log{{Picks: []api.Pick{{Thread: 3, Count: 258}}, Steps: -2, Sum: 1<<64 - 1}},
		Tests: []api.Test{{Given: api.Given{Picks: []uint8{7}}, Out: []int64{-1}}}, Witness: [][]int64{nil, {4}},
	}
	want := slices.Concat(
		word(255), word(2), []byte("ab"), word(0),
		word(1), word(1), word(3), word(258), word(0), word(0), word(1<<64-2), word(1<<64-1), // Logs
		word(1), word(0), word(0), word(1), word(7), word(1), word(1<<64-1), // Tests
		word(0), word(0), word(0), word(0), word(0), word(0), // Contracts, Patch, Picks, Set, Places, Rest
		word(2), word(0), word(1), word(4), word(0), // Witness, Numbers
	)
	if b := session.Bytes(x); !bytes.Equal(b, want) {
		t.Errorf("%v, not %v", b, want)
	}
	y := api.Evidence{
		Other:     "o",
		Contracts: []api.Contract{{At: 1, Names: []string{"x", ""}, Claims: []api.Invariant{{Kind: api.ClLinear, A: 2, B: 3, K: -4, M: 5, Set: []int64{6}}}}},
		Patch:     api.Patch{Edits: []api.Edit{{At: 8, With: []api.Node{{Kind: api.KiFn, Text: "t", Num: 9, Subs: []api.Node{{}}, Params: []string{"p"}, Else: []api.Node{{Kind: api.KiDo}}}}}}},
		Places:    []api.Place{{Kind: api.PlCell, A: 1, B: -1}},
		Set:       []int{-3},
	}
	empty := slices.Concat(word(0), word(0), word(0), word(0), word(0), word(0))
	want = slices.Concat(
		word(0), word(0), word(1), []byte("o"), word(0), word(0),
		word(1), word(1), word(2), word(1), []byte("x"), word(0), word(1), word(10+1), word(2), word(3), word(1<<64-4), word(5), word(1), word(6),
		word(1), word(8), word(1), word(10), word(1), []byte("t"), word(9), word(1), word(0), empty, word(1), word(1), []byte("p"), word(0), word(1), word(27), empty,
		word(0), word(1), word(1<<64-3), word(1), word(2), word(1), word(1<<64-1), word(0), word(0), word(0),
	)
	if b := session.Bytes(y); !bytes.Equal(b, want) {
		t.Errorf("%v, not %v", b, want)
	}
}

// word returns a number as 8 bytes.
func word(n uint64) []byte { return binary.LittleEndian.AppendUint64(nil, n) }

// P10.5: what moves from one field to the next one makes another evidence.
func TestFieldsApart(t *testing.T) {
	pairs := [][2]api.Evidence{
		{{Program: "ab", Other: "c"}, {Program: "a", Other: "bc"}},
		{{Set: []int{0}}, {Set: nil, Places: []api.Place{{}}}},
		{{Places: []api.Place{{Kind: 1}}}, {Rest: []api.Place{{Kind: 1}}}},
		{{Witness: [][]int64{{1}, {2}}}, {Witness: [][]int64{{1, 2}}}},
		{{Witness: [][]int64{{}, {1}}}, {Witness: [][]int64{{1}, {}}}},
		{{Numbers: []int64{0}}, {}},
		{{Numbers: []int64{-1}}, {Numbers: []int64{1<<63 - 1}}},
		{{Contracts: []api.Contract{{Names: []string{"a", "b"}}}}, {Contracts: []api.Contract{{Names: []string{"ab", ""}}}}},
		{{Tests: []api.Test{{Given: api.Given{Inputs: []int64{1}}}}}, {Tests: []api.Test{{Given: api.Given{Clocks: []int64{1}}}}}},
	}
	for _, x := range pairs {
		if session.Same(x[0], x[1]) || session.Digest(x[0]) == session.Digest(x[1]) {
			t.Errorf("%+v and %+v are told to be equal", x[0], x[1])
		}
	}
}

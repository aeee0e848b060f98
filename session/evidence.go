package session

import (
	"bytes"

	"sleuth/api"
)

// What the FNV-1a sum of 64 bits begins with, and is multiplied by.
const (
	sumStart = 14695981039346656037
	sumPrime = 1099511628211
)

// Bytes returns the bytes of an evidence: P10.1.
func Bytes(e api.Evidence) []byte {
	return appended(nil, e.Kind, e.Program, e.Other, e.Logs, e.Tests, e.Contracts, e.Patch, e.Picks, e.Set, e.Places, e.Rest, e.Witness, e.Numbers)
}

// Digest returns the digest of an evidence: P10.1.
func Digest(e api.Evidence) uint64 {
	sum := uint64(sumStart)
	for _, b := range Bytes(e) {
		sum = (sum ^ uint64(b)) * sumPrime
	}
	return sum
}

// Same reports whether two pieces of evidence are equal in all fields: P10.1.
func Same(a, b api.Evidence) bool { return bytes.Equal(Bytes(a), Bytes(b)) } // by P10.5

// appended appends the bytes of some values.
func appended(b []byte, values ...any) []byte {
	for _, v := range values {
		switch x := v.(type) {
		case int:
			b = number(b, uint64(x))
		case int64:
			b = number(b, uint64(x))
		case uint64:
			b = number(b, x)
		case uint8:
			b = number(b, uint64(x))
		case api.Proof:
			b = number(b, uint64(x))
		case api.Claim:
			b = number(b, uint64(x))
		case api.Kind:
			b = number(b, uint64(x))
		case api.PlaceKind:
			b = number(b, uint64(x))
		case string:
			b = append(number(b, uint64(len(x))), x...)
		default:
			b = composed(b, x)
		}
	}
	return b
}

// composed appends the bytes of a list or a struct.
func composed(b []byte, v any) []byte {
	switch x := v.(type) {
	case []int:
		return list(b, x)
	case []int64:
		return list(b, x)
	case []uint8:
		return list(b, x)
	case []string:
		return list(b, x)
	case [][]int64:
		return list(b, x)
	case []api.Log:
		return list(b, x)
	case []api.Test:
		return list(b, x)
	case []api.Contract:
		return list(b, x)
	case []api.Invariant:
		return list(b, x)
	case []api.Edit:
		return list(b, x)
	case []api.Node:
		return list(b, x)
	case []api.Pick:
		return list(b, x)
	case []api.Place:
		return list(b, x)
	case api.Log:
		return appended(b, x.Picks, x.Inputs, x.Clocks, x.Steps, x.Sum)
	case api.Test:
		return appended(b, x.Given.Inputs, x.Given.Clocks, x.Given.Picks, x.Out)
	case api.Contract:
		return appended(b, x.At, x.Names, x.Claims)
	case api.Invariant:
		return appended(b, x.Kind, x.A, x.B, x.K, x.M, x.Set)
	case api.Patch:
		return list(b, x.Edits)
	case api.Edit:
		return appended(b, x.At, x.With)
	case api.Node:
		return appended(b, x.Kind, x.Text, x.Num, x.Subs, x.Params, x.Body, x.Else)
	case api.Pick:
		return appended(b, x.Thread, x.Count)
	case api.Place:
		return appended(b, x.Kind, x.A, x.B)
	}
	return b
}

// list appends the length of a list and its elements.
func list[T any](b []byte, l []T) []byte {
	b = number(b, uint64(len(l)))
	for _, x := range l {
		b = appended(b, x)
	}
	return b
}

// number appends a number, the lowest byte first.
func number(b []byte, n uint64) []byte {
	for shift := 0; shift < 64; shift += 8 {
		b = append(b, byte(n>>shift))
	}
	return b
}

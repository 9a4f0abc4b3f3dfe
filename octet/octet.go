// Package octet is layer 1: numbers as bytes, the lowest first.
package octet

import (
	"iter"
	"slices"

	"aumbry/api"
)

// maxFill is how long a filled text may be.
const maxFill = 1 << 20

// Get tells the number that a field says. (P1.1)
func Get(b []byte, at, size int) (uint64, api.Errno) {
	if !isSize(size) || !within(b, at, size) {
		return 0, api.ErrArg
	}
	x := uint64(0)
	for i, c := range field(b, at, size) {
		x |= uint64(c) << (8 * i)
	}
	return x, api.OK
}

// Put adds a field that says a number. (P1.2)
func Put(b []byte, x uint64, size int) []byte {
	if !isSize(size) {
		return slices.Clone(b)
	}
	l := make([]byte, len(b)+size)
	copy(l, b)
	for i := range field(l, len(b), size) {
		l[len(b)+i] = byte(x >> (8 * i))
	}
	return l
}

// Cut is a part of some bytes. (P1.3)
func Cut(b []byte, at, n int) ([]byte, bool) {
	if !within(b, at, n) {
		return nil, false
	}
	l := make([]byte, n)
	for i, c := range field(b, at, n) {
		l[i] = c
	}
	return l, true
}

// Fill adds noughts up to a length. (P1.4)
func Fill(b []byte, n int) ([]byte, bool) {
	if len(b) > n || n > maxFill {
		return nil, false
	}
	l := make([]byte, n)
	copy(l, b)
	return l, true
}

// isSize says whether a field of so many bytes can say a number.
func isSize(n int) bool { return n == 1 || n == 2 || n == 4 || n == 8 }

// within is written without a sum of at and n, which could wrap.
func within(b []byte, at, n int) bool {
	return at >= 0 && n >= 0 && at <= len(b) && n <= len(b)-at
}

// field goes through the bytes of a field that is there.
func field(b []byte, at, n int) iter.Seq2[int, byte] {
	return func(yield func(int, byte) bool) {
		for i := 0; i < n; i++ {
			if !yield(i, b[at+i]) {
				return
			}
		}
	}
}

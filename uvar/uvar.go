// Package uvar is layer 1: see shared/doc/01-uvar.md.
package uvar

import (
	"math/bits"
	"slices"

	"inlay/api"
)

// Most is how many bytes a number has at most.
const (
	Most = 10
)

const (
	width = 7          // bits of the number in each byte
	more  = 1 << width // set in a byte that another one follows
	rest  = 1          // the greatest tenth byte: of 64 bits nine bytes leave one
)

// Put lays n behind b.
func Put(b []byte, n uint64) []byte {
	// Room for all of the bytes first: b's own room is either where the answer lies, or is left as it is.
	b = slices.Grow(b, Size(n))
	for n >= more {
		b = append(b, byte(n)|more)
		n >>= width
	}
	return append(b, byte(n))
}

// Size tells how many bytes Put lays.
func Size(n uint64) int {
	significant := max(bits.Len64(n), 1) // 0 has a byte too
	return (significant + width - 1) / width
}

// Get tells the number that b begins with, and how many bytes it has.
func Get(b []byte) (uint64, int, api.Errno) {
	var n uint64
	size, err := 0, api.ErrShort // as it is, if the bytes end ahead of the number's last one
take:
	for i, c := range b {
		switch {
		case i == Most-1 && c > rest:
			err = api.ErrForm
			break take
		case c >= more:
			n |= uint64(c-more) << (width * i)
		case c == 0 && i > 0:
			err = api.ErrLong
			break take
		default:
			n |= uint64(c) << (width * i)
			size, err = i+1, api.OK
			break take
		}
	}
	if err != api.OK {
		return 0, 0, err
	}
	return n, size, api.OK
}

// Fold makes of numbers near 0, with either sign, small ones without.
func Fold(n int) uint64 {
	twice := uint64(n) << 1
	if n < 0 {
		return ^twice // -2n-1: there is none that this can't hold
	}
	return twice
}

// Unfold takes back what Fold did.
func Unfold(u uint64) int {
	half := int(u >> 1)
	if u&1 == 1 {
		return ^half
	}
	return half
}

// PutInt lays a number that may have a sign.
func PutInt(b []byte, n int) []byte { return Put(b, Fold(n)) }

// GetInt tells a number that PutInt laid.
func GetInt(b []byte) (int, int, api.Errno) {
	u, size, err := Get(b)
	return Unfold(u), size, err
}

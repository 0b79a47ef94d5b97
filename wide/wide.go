// Package wide is layer 1: numbers from 0 on, below 2^128; see shared/doc/01-wide.md.
package wide

import (
	"cmp"
	"math/bits"

	"gridiron/api"
)

// Of tells n as a wide number.
func Of(n uint64) api.Wide {
	return api.Wide{Low: n}
}

// Add tells both together; false, if that is 2^128 or more.
func Add(a, b api.Wide) (api.Wide, bool) {
	low, carry := bits.Add64(a.Low, b.Low, 0)
	high, over := bits.Add64(a.High, b.High, carry)
	if over != 0 {
		return api.Wide{}, false
	}
	return api.Wide{High: high, Low: low}, true
}

// Sub tells a less b; false, if b is more than a.
func Sub(a, b api.Wide) (api.Wide, bool) {
	low, borrow := bits.Sub64(a.Low, b.Low, 0)
	high, under := bits.Sub64(a.High, b.High, borrow)
	if under != 0 {
		return api.Wide{}, false
	}
	return api.Wide{High: high, Low: low}, true
}

// Mul tells a times b.
func Mul(a, b uint64) api.Wide {
	high, low := bits.Mul64(a, b)
	return api.Wide{High: high, Low: low}
}

// Diff tells how much b is above a; 0, if it is not above it.
func Diff(a, b int64) uint64 {
	if b <= a {
		return 0
	}
	// Of numbers without a sign the difference wraps round to what it is, even where it is past the greatest int64.
	return uint64(b) - uint64(a)
}

// Cmp tells -1, 0 or 1, as a is less than b, the same, or more.
func Cmp(a, b api.Wide) int {
	if a.High != b.High {
		return cmp.Compare(a.High, b.High)
	}
	return cmp.Compare(a.Low, b.Low)
}

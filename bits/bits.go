// Package bits: sets of 256 numbers; see doc/01-bits.md.
package bits

import (
	"math/bits"

	"corebell/api"
)

const partSize = 64

func Has(b api.Bits, n int) bool {
	return inRange(n) && b[n/partSize]&bit(n) != 0
}

func With(b api.Bits, n int) api.Bits {
	if inRange(n) {
		b[n/partSize] |= bit(n)
	}
	return b
}

func Without(b api.Bits, n int) api.Bits {
	if inRange(n) {
		b[n/partSize] &^= bit(n)
	}
	return b
}

func Top(b api.Bits) int {
	for part := len(b) - 1; part >= 0; part-- {
		if b[part] != 0 {
			return part*partSize + bits.Len64(b[part]) - 1
		}
	}
	return -1
}

func Next(b api.Bits, from int) int {
	// Beyond the range there is no part to start in.
	if from >= api.Vectors {
		return -1
	}
	from = max(from, 0)
	first := from / partSize
	// b is a copy of the caller's array, so the numbers below from can be dropped in place.
	b[first] &^= bit(from) - 1
	for part := first; part < len(b); part++ {
		if b[part] != 0 {
			return part*partSize + bits.TrailingZeros64(b[part])
		}
	}
	return -1
}

func All(b api.Bits) []int {
	var all []int
	for n := Next(b, 0); n >= 0; n = Next(b, n+1) {
		all = append(all, n)
	}
	return all
}

func Both(a, b api.Bits) api.Bits {
	for part := range a {
		a[part] &= b[part]
	}
	return a
}

func Either(a, b api.Bits) api.Bits {
	for part := range a {
		a[part] |= b[part]
	}
	return a
}

func inRange(n int) bool { return n >= 0 && n < api.Vectors }

// bit is for numbers in range only: a negative shift count would panic.
func bit(n int) uint64 { return 1 << (n % partSize) }

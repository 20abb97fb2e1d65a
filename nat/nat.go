// Package nat implements natural numbers of any size.
package nat

import (
	"math/bits"

	"compass/api"
)

// Nat is a natural number: 64-bit limbs, the least significant one first.
// Arguments may end with limbs equal to 0, results never do.
type Nat []uint64

// Of returns the number with these limbs.
func Of(l ...uint64) Nat {
	used := trim(l)
	if len(used) == 0 {
		return nil
	}
	out := make(Nat, len(used))
	copy(out, used)
	return out
}

// Cmp returns -1, 0 or 1 if a is less than, equal to or greater than b.
func Cmp(a, b Nat) int {
	a, b = trim(a), trim(b)
	switch {
	case len(a) < len(b):
		return -1
	case len(a) > len(b):
		return 1
	}
	for i := len(a) - 1; i >= 0; i-- {
		switch {
		case a[i] < b[i]:
			return -1
		case a[i] > b[i]:
			return 1
		}
	}
	return 0
}

// Add returns the sum of all arguments.
func Add(l ...Nat) Nat {
	size := 0
	for _, a := range l {
		size = max(size, len(trim(a)))
	}
	// One limb more holds the carries of up to 2^64 - 1 addends.
	out := make(Nat, size+1)
	for _, a := range l {
		addTo(out, trim(a))
	}
	return trim(out)
}

// Sub returns a - b and true, or 0 and false if a is less than b.
func Sub(a, b Nat) (Nat, bool) {
	if Cmp(a, b) < 0 {
		return nil, false
	}
	out := Of(a...)
	subFrom(out, trim(b))
	return trim(out), true
}

// Shl returns a multiplied by 2^n; a negative n divides, as by Shr.
func Shl(a Nat, n int) Nat {
	switch {
	case n > api.MaxBits, n < -api.MaxBits:
		return nil
	case n < 0:
		return shiftDown(a, -n)
	}
	return shiftUp(a, n)
}

// Shr returns a divided by 2^n, rounded down; a negative n multiplies, as by Shl.
func Shr(a Nat, n int) Nat {
	// The least int has no negation, but it and its wrapped negation are both out of range.
	return Shl(a, -n)
}

// Bits returns the number of bits of a.
func Bits(a Nat) int {
	a = trim(a)
	if len(a) == 0 {
		return 0
	}
	return 64*(len(a)-1) + bits.Len64(a[len(a)-1])
}

// Low returns the number of trailing zero bits of a, 0 for 0.
func Low(a Nat) int {
	for i, limb := range a {
		if limb != 0 {
			return 64*i + bits.TrailingZeros64(limb)
		}
	}
	return 0
}

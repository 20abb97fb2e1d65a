package nat

import "math/bits"

// trim returns a without the limbs equal to 0 at its end. It shares a's memory.
func trim(a Nat) Nat {
	n := len(a)
	for n > 0 && a[n-1] == 0 {
		n--
	}
	return a[:n]
}

// addTo adds x to out, which must be long enough for the sum.
func addTo(out, x Nat) {
	carry := uint64(0)
	for i, limb := range x {
		out[i], carry = bits.Add64(out[i], limb, carry)
	}
	for i := len(x); carry > 0; i++ {
		out[i], carry = bits.Add64(out[i], 0, carry)
	}
}

// subFrom subtracts x from out, which must not be less than x.
func subFrom(out, x Nat) {
	borrow := uint64(0)
	for i, limb := range x {
		out[i], borrow = bits.Sub64(out[i], limb, borrow)
	}
	for i := len(x); borrow > 0; i++ {
		out[i], borrow = bits.Sub64(out[i], 0, borrow)
	}
}

// addProduct adds x times factor to the first limbs of out and returns the carry.
func addProduct(out, x Nat, factor uint64) uint64 {
	carry := uint64(0)
	out = out[:len(x)]
	for i, limb := range x {
		high, low := bits.Mul64(limb, factor)
		low, c := bits.Add64(low, carry, 0)
		high += c
		out[i], c = bits.Add64(out[i], low, 0)
		carry = high + c
	}
	return carry
}

// subProduct subtracts x times factor from the first limbs of out and returns the borrow.
func subProduct(out, x Nat, factor uint64) uint64 {
	borrow := uint64(0)
	out = out[:len(x)]
	for i, limb := range x {
		high, low := bits.Mul64(limb, factor)
		low, c := bits.Add64(low, borrow, 0)
		high += c
		out[i], c = bits.Sub64(out[i], low, 0)
		borrow = high + c
	}
	return borrow
}

// join returns high times 2^(64 k) plus low, which must have at most k limbs.
// The result has at least k limbs, even if the last of them are 0.
func join(high, low Nat, k int) Nat {
	out := make(Nat, k+len(high))
	copy(out, low)
	copy(out[k:], high)
	return out
}

// shiftUp returns a multiplied by 2^n, for any n from 0.
func shiftUp(a Nat, n int) Nat {
	a = trim(a)
	if len(a) == 0 {
		return nil
	}
	limbs, rest := n/64, n%64
	out := make(Nat, limbs+len(a)+1)
	for i, limb := range a {
		out[limbs+i] |= limb << rest
		out[limbs+i+1] = limb >> (64 - rest)
	}
	return trim(out)
}

// shiftDown returns a divided by 2^n, rounded down, for any n from 0.
func shiftDown(a Nat, n int) Nat {
	a = trim(a)
	limbs, rest := n/64, n%64
	if limbs >= len(a) {
		return nil
	}
	a = a[limbs:]
	out := make(Nat, len(a))
	for i, limb := range a {
		out[i] = limb >> rest
		if i > 0 {
			out[i-1] |= limb << (64 - rest)
		}
	}
	return trim(out)
}

// lowBits returns the remainder of a divided by 2^n.
func lowBits(a Nat, n int) Nat {
	limbs, rest := n/64, n%64
	out := make(Nat, limbs+1)
	copy(out, a)
	out[limbs] &= 1<<rest - 1
	return trim(out)
}

package nat

import "math/bits"

// longCut is the number of limbs below which long division is faster than division by halves.
const longCut = 160

// DivMod returns the quotient, the remainder and true, or 0, 0 and false if b is 0.
func DivMod(a, b Nat) (Nat, Nat, bool) {
	a, b = trim(a), trim(b)
	switch {
	case len(b) == 0:
		return nil, nil, false
	case Cmp(a, b) < 0:
		return nil, Of(a...), true
	case len(b) == 1:
		quotient := Of(a...)
		rest := divideByLimb(quotient, b[0])
		return trim(quotient), Of(rest), true
	}
	// The quotient's limbs are guessed from b's top limb, which is good enough only if its top bit is 1.
	shift := bits.LeadingZeros64(b[len(b)-1])
	quotient, rest := divide(shiftUp(a, shift), shiftUp(b, shift))
	return quotient, shiftDown(rest, shift), true
}

// divideByLimb replaces a by its quotient and returns the remainder.
func divideByLimb(a Nat, divisor uint64) uint64 {
	rest := uint64(0)
	for i := len(a) - 1; i >= 0; i-- {
		a[i], rest = bits.Div64(rest, a[i], divisor)
	}
	return rest
}

// divide returns the quotient and the remainder for a b from 2 limbs whose top bit is 1.
func divide(a, b Nat) (Nat, Nat) {
	a = trim(a)
	more := len(a) - len(b)
	switch {
	case more < longCut, len(b) < longCut:
		return divideLong(a, b)
	case more > len(b):
		return dividePieces(a, b)
	case more < len(b):
		return divideTop(a, b, len(b)-more)
	}
	return divideHalves(a, b)
}

// divideLong is divide limb by limb.
func divideLong(a, b Nat) (Nat, Nat) {
	if len(a) < len(b) {
		return nil, Of(a...)
	}
	quotient := make(Nat, len(a)-len(b)+1)
	rest := make(Nat, len(a)+1)
	copy(rest, a)
	for i := len(quotient) - 1; i >= 0; i-- {
		quotient[i] = reduce(rest[i:i+len(b)+1], b)
	}
	return trim(quotient), trim(rest)
}

// reduce replaces a, which has one limb more than b and is less than 2^64 times b,
// by its remainder, and returns its quotient.
func reduce(a, b Nat) uint64 {
	n := len(b)
	guess := guessLimb(a[n], a[n-1], a[n-2], b[n-1], b[n-2])
	borrow := subProduct(a, b, guess)
	short := a[n] < borrow
	a[n] -= borrow
	if short {
		guess--
		// The carry out of a takes back the borrow, so it is left out.
		a[n] += addProduct(a, b, 1)
	}
	return guess
}

// guessLimb returns the quotient of the top limbs of two numbers, three by two of them: it is the quotient
// of the numbers, or 1 more. The top limb of the dividend must not be greater than that of the divisor.
func guessLimb(a2, a1, a0, b1, b0 uint64) uint64 {
	guess, rest, over := uint64(1<<64-1), uint64(0), uint64(0)
	if a2 < b1 {
		guess, rest = bits.Div64(a2, a1, b1)
	} else {
		rest, over = bits.Add64(a1, b1, 0)
	}
	for over == 0 {
		high, low := bits.Mul64(guess, b0)
		if high < rest || high == rest && low <= a0 {
			break
		}
		guess--
		rest, over = bits.Add64(rest, b1, 0)
	}
	return guess
}

// dividePieces is divide for a long a: by long division whose digits are as long as b.
func dividePieces(a, b Nat) (Nat, Nat) {
	n := len(b)
	quotient := make(Nat, len(a))
	var rest, digit Nat
	for at := (len(a) - 1) / n * n; at >= 0; at -= n {
		piece := a[at:min(at+n, len(a))]
		digit, rest = divide(join(rest, piece, len(piece)), b)
		copy(quotient[at:], digit)
	}
	return trim(quotient), rest
}

// divideHalves is divide for an a about twice as long as b: by long division with two digits.
func divideHalves(a, b Nat) (Nat, Nat) {
	k := len(b) / 2
	high, rest := divideTop(a[k:], b, k)
	low, rest := divideTop(join(rest, a[:k], k), b, k)
	return trim(join(high, low, k)), rest
}

// divideTop is divide by a quotient that is guessed without the k lowest limbs of b.
// The guess is never too small, and at most a little too great.
func divideTop(a, b Nat, k int) (Nat, Nat) {
	guess, rest := divide(a[k:], b[k:])
	rest = join(rest, a[:k], k)
	left := Mul(innerCut, guess, b[:k])
	for Cmp(rest, left) < 0 {
		guess, _ = Sub(guess, Nat{1})
		rest = Add(rest, b)
	}
	rest, _ = Sub(rest, left)
	return guess, rest
}

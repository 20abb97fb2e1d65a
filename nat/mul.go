package nat

// innerCut is the cut of the multiplications that this package needs itself: about where three products begin to pay.
const innerCut = 40

// Mul returns the product of a and b. Parts with at least cut limbs are multiplied by three products instead of four.
func Mul(cut int, a, b Nat) Nat {
	a, b = trim(a), trim(b)
	out := make(Nat, len(a)+len(b))
	multiply(out, a, b, max(cut, 2))
	return trim(out)
}

// multiply sets out, which has as many limbs as a and b together, to their product.
func multiply(out, a, b Nat, cut int) {
	if len(a) < len(b) {
		a, b = b, a
	}
	switch {
	case len(b) < cut:
		multiplyRows(out, a, b)
	case len(b) < len(a):
		multiplyPieces(out, a, b, cut)
	default:
		multiplyHalves(out, a, b, cut)
	}
}

// multiplyRows is multiply by the product of each pair of limbs.
func multiplyRows(out, a, b Nat) {
	clear(out)
	for i, limb := range b {
		out[i+len(a)] = addProduct(out[i:], a, limb)
	}
}

// multiplyPieces is multiply for an a that is longer than b: piece by piece, since halves must have equal lengths.
func multiplyPieces(out, a, b Nat, cut int) {
	clear(out)
	for at := 0; at < len(a); at += len(b) {
		piece := a[at:min(at+len(b), len(a))]
		part := make(Nat, len(piece)+len(b))
		multiply(part, piece, b, cut)
		addTo(out[at:], part)
	}
}

// multiplyHalves is multiply for an a and a b of the same length from 2: for halves a0, a1 and b0, b1
// the middle a0 b1 + a1 b0 is a0 b0 + a1 b1 - (a0 - a1) (b0 - b1).
// Differences are taken, not sums, because they are never longer than the halves.
func multiplyHalves(out, a, b Nat, cut int) {
	half := (len(a) + 1) / 2
	low, high := out[:2*half], out[2*half:]
	multiply(low, a[:half], b[:half], cut)
	multiply(high, a[half:], b[half:], cut)
	aGap, aNeg := distance(a[:half], a[half:])
	bGap, bNeg := distance(b[:half], b[half:])
	cross := make(Nat, 2*half)
	multiply(cross, aGap, bGap, cut)
	middle := make(Nat, 2*half+1)
	copy(middle, low)
	addTo(middle, high)
	if aNeg == bNeg {
		subFrom(middle, cross)
	} else {
		addTo(middle, cross)
	}
	addTo(out[half:], trim(middle))
}

// distance returns the absolute value of a - b with as many limbs as a, which is not shorter than b,
// and whether a - b is negative.
func distance(a, b Nat) (Nat, bool) {
	out := make(Nat, len(a))
	if Cmp(a, b) < 0 {
		copy(out, b)
		subFrom(out, trim(a))
		return out, true
	}
	copy(out, a)
	subFrom(out, trim(b))
	return out, false
}

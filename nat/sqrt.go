package nat

// Sqrt returns the greatest number whose square is not greater than a, and a minus that square.
func Sqrt(a Nat) (Nat, Nat) {
	size := Bits(a)
	if size <= 64 {
		return sqrtLimb(a)
	}
	// The root of the upper half of the bits gives the upper half of the root. Its remainder, divided by
	// twice that root, gives the other half, or 1 more, since the upper half has at least 2k - 1 bits.
	k := size / 4
	top, rest := Sqrt(shiftDown(a, 2*k))
	rest = Add(shiftUp(rest, k), lowBits(shiftDown(a, k), k))
	low, rest, _ := DivMod(rest, shiftUp(top, 1))
	root := Add(shiftUp(top, k), low)
	rest = Add(shiftUp(rest, k), lowBits(a, k))
	square := Mul(innerCut, low, low)
	if Cmp(rest, square) < 0 {
		less, _ := Sub(root, Nat{1})
		rest = Add(rest, root, less)
		root = less
	}
	rest, _ = Sub(rest, square)
	return root, rest
}

// sqrtLimb is Sqrt for a number of at most one limb.
func sqrtLimb(a Nat) (Nat, Nat) {
	size := Bits(a)
	if size == 0 {
		return nil, nil
	}
	x := a[0]
	// Newton's steps from above the root fall until they reach it.
	root := uint64(1) << ((size + 1) / 2)
	for next := (root + x/root) / 2; next < root; next = (root + x/root) / 2 {
		root = next
	}
	return Of(root), Of(x - root*root)
}

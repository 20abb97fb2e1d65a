package whole_test

import (
	"math/big"
	"slices"
	"testing"

	"compass/nat"
	"compass/whole"
)

const top = 1<<64 - 1

// number returns a number with about so many limbs and alternating signs; many limbs are 0 or 2^64 - 1,
// since carries, borrows and exact quotients are rare for other limbs.
func number(seed, limbs int) whole.Int {
	x := uint64(seed)*2862933555777941757 + 3037000493
	out := make(nat.Nat, limbs)
	for i := range out {
		x ^= x << 13
		x ^= x >> 7
		x ^= x << 17
		switch x >> 32 % 5 {
		case 0, 1:
			out[i] = 0
		case 2:
			out[i] = top
		default:
			out[i] = x
		}
	}
	return whole.Make(seed%2 == 1, out)
}

// samples returns numbers around 0, around powers of two, and with many limbs.
func samples() []whole.Int {
	var out []whole.Int
	for v := -3; v <= 3; v++ {
		out = append(out, whole.Of(v))
	}
	for _, n := range []int{31, 32, 63, 64, 65, 127, 128, 200} {
		for add := -1; add <= 1; add++ {
			power := whole.Of(1).Shl(n).Add(whole.Of(add))
			out = append(out, power, power.Not())
		}
	}
	for i := range 24 {
		out = append(out, number(i, i+1))
	}
	return out
}

// loose returns a in a form that only arguments have: with limbs equal to 0 at the end, and with a sign if it is 0.
func loose(a whole.Int) whole.Int {
	return whole.Int{Neg: a.Neg || a.Sign() == 0, Mag: append(slices.Clone(a.Mag), 0, 0)}
}

func clone(a whole.Int) whole.Int {
	return whole.Int{Neg: a.Neg, Mag: slices.Clone(a.Mag)}
}

func toBig(a whole.Int) *big.Int {
	words := make([]big.Word, len(a.Mag))
	for i, limb := range a.Mag {
		words[i] = big.Word(limb)
	}
	out := new(big.Int).SetBits(words)
	if a.Neg {
		out.Neg(out)
	}
	return out
}

// checkForm checks that a is in the form that results have.
func checkForm(t *testing.T, what string, a whole.Int) {
	t.Helper()
	if n := len(a.Mag); n == 0 && a.Neg || n > 0 && a.Mag[n-1] == 0 {
		t.Errorf("%s: %v is not in the form of a result", what, a)
	}
}

// isBig checks that got is the number want, in the form that results have.
func isBig(t *testing.T, what string, got whole.Int, want *big.Int) {
	t.Helper()
	checkForm(t, what, got)
	if toBig(got).Cmp(want) != 0 {
		t.Errorf("%s: got %v, want %v", what, toBig(got), want)
	}
}

// is checks that got is the number with these decimal digits, in the form that results have.
func is(t *testing.T, what string, got whole.Int, want string) {
	t.Helper()
	number, ok := new(big.Int).SetString(want, 10)
	if !ok {
		t.Fatalf("%s: %q is not a number", what, want)
	}
	isBig(t, what, got, number)
}

// exactly checks that got has exactly this sign and these limbs.
func exactly(t *testing.T, what string, got whole.Int, neg bool, limbs ...uint64) {
	t.Helper()
	if got.Neg != neg || !slices.Equal(got.Mag, limbs) {
		t.Errorf("%s: got %v, want %v %v", what, got, neg, limbs)
	}
}

func same[T comparable](t *testing.T, what string, got, want T) {
	t.Helper()
	if got != want {
		t.Errorf("%s: got %v, want %v", what, got, want)
	}
}

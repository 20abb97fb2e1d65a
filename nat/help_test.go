package nat_test

import (
	"math/big"
	"slices"
	"testing"

	"compass/nat"
)

const top = 1<<64 - 1

// number returns a number with about so many limbs, many of which are 0, 2^63 or 2^64 - 1:
// carries, borrows and wrong guesses of quotients are rare for other limbs.
func number(seed, limbs int) nat.Nat {
	x := uint64(seed)*2862933555777941757 + 3037000493
	out := make([]uint64, limbs)
	for i := range out {
		x ^= x << 13
		x ^= x >> 7
		x ^= x << 17
		switch x >> 32 % 6 {
		case 0:
			out[i] = 0
		case 1, 2:
			out[i] = top
		case 3:
			out[i] = 1 << 63
		default:
			out[i] = x
		}
	}
	return nat.Of(out...)
}

// padded returns a copy of a with limbs equal to 0 at its end.
func padded(a nat.Nat, zeros int) nat.Nat {
	return append(slices.Clone(a), make(nat.Nat, zeros)...)
}

func toBig(a nat.Nat) *big.Int {
	words := make([]big.Word, len(a))
	for i, limb := range a {
		words[i] = big.Word(limb)
	}
	return new(big.Int).SetBits(words)
}

// isBig checks that got is the number want, without limbs equal to 0 at its end.
func isBig(t *testing.T, what string, got nat.Nat, want *big.Int) {
	t.Helper()
	if len(got) > 0 && got[len(got)-1] == 0 {
		t.Errorf("%s: the result has a limb 0 at its end", what)
	}
	if toBig(got).Cmp(want) != 0 {
		t.Errorf("%s: got %v, want %v", what, toBig(got), want)
	}
}

// is checks that got has exactly these limbs.
func is(t *testing.T, what string, got nat.Nat, want ...uint64) {
	t.Helper()
	if !slices.Equal(got, want) {
		t.Errorf("%s: got %v, want %v", what, got, want)
	}
}

func same[T comparable](t *testing.T, what string, got, want T) {
	t.Helper()
	if got != want {
		t.Errorf("%s: got %v, want %v", what, got, want)
	}
}

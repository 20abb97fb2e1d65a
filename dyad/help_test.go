package dyad_test

import (
	"fmt"
	"math/big"
	"slices"
	"testing"

	"compass/dyad"
	"compass/nat"
	"compass/whole"
)

func num(man, exp int) dyad.Dyad {
	return dyad.Make(whole.Of(man), exp)
}

// power returns 2^n for any n from 0, also where package whole would not shift so far.
func power(n int) whole.Int {
	limbs := make(nat.Nat, n/64+1)
	limbs[n/64] = 1 << (n % 64)
	return whole.Make(false, limbs)
}

// long returns an odd number with so many limbs, most of them without a 1 or without a 0; it is negative if seed is odd.
func long(seed, limbs int) whole.Int {
	x := uint64(seed)*2862933555777941757 + 3037000493
	out := make(nat.Nat, limbs)
	for i := range out {
		x ^= x << 13
		x ^= x >> 7
		x ^= x << 17
		switch x >> 32 % 3 {
		case 0:
			out[i] = 0
		case 1:
			out[i] = 1<<64 - 1
		default:
			out[i] = x
		}
	}
	out[0] |= 1
	return whole.Make(seed%2 == 1, out)
}

// samples returns numbers around 0, around powers of two, and with many limbs.
func samples() []dyad.Dyad {
	out := []dyad.Dyad{{}}
	for _, exp := range []int{-65, -2, -1, 0, 1, 64} {
		for _, man := range []int{1, 3, 5, 7} {
			out = append(out, num(man, exp), num(-man, exp))
		}
	}
	for _, n := range []int{63, 64, 65, 128} {
		for _, add := range []int{-1, 1} {
			out = append(out, dyad.Make(power(n).Add(whole.Of(add)), 1-n))
		}
	}
	for i := range 8 {
		out = append(out, dyad.Make(long(i, i+1), 37*i-150))
	}
	return out
}

// loose returns a in a representation that only arguments have: with a Man that is even or a negative 0,
// and that has limbs equal to 0 at its end.
func loose(a dyad.Dyad) dyad.Dyad {
	man := a.Man.Shl(67)
	return dyad.Dyad{Man: whole.Int{Neg: man.Neg || man.Sign() == 0, Mag: append(man.Mag, 0, 0)}, Exp: a.Exp - 67}
}

func clone(a dyad.Dyad) dyad.Dyad {
	return dyad.Dyad{Man: whole.Int{Neg: a.Man.Neg, Mag: slices.Clone(a.Man.Mag)}, Exp: a.Exp}
}

func toBig(a whole.Int) *big.Int {
	words := make([]big.Word, len(a.Mag))
	for i, limb := range a.Mag {
		words[i] = big.Word(limb)
	}
	out := new(big.Int).SetBits(words)
	if a.Neg {
		out.Neg(out)
	}
	return out
}

// toRat returns a as a rational number. Its exponent must be small.
func toRat(a dyad.Dyad) *big.Rat {
	return scale(new(big.Rat).SetInt(toBig(a.Man)), a.Exp)
}

// scale returns x times 2^n.
func scale(x *big.Rat, n int) *big.Rat {
	factor := new(big.Rat).SetInt(new(big.Int).Lsh(big.NewInt(1), uint(max(n, -n))))
	if n < 0 {
		factor.Inv(factor)
	}
	return factor.Mul(factor, x)
}

// checkForm checks that a is in the form that results have.
func checkForm(t *testing.T, what string, a dyad.Dyad) {
	t.Helper()
	mag := a.Man.Mag
	ok := !a.Man.Neg && a.Exp == 0
	if n := len(mag); n > 0 {
		ok = mag[0]&1 == 1 && mag[n-1] != 0
	}
	if !ok {
		t.Errorf("%s: %s is not in the form of a result", what, text(a))
	}
}

// isRat checks that got is the number want, in the form that results have.
func isRat(t *testing.T, what string, got dyad.Dyad, want *big.Rat) {
	t.Helper()
	checkForm(t, what, got)
	if toRat(got).Cmp(want) != 0 {
		t.Errorf("%s: got %s, want %v", what, text(got), want)
	}
}

// is checks that got has exactly this Man, without limbs equal to 0 at its end, and this Exp.
func is(t *testing.T, what string, got dyad.Dyad, man whole.Int, exp int) {
	t.Helper()
	if !equal(got, dyad.Dyad{Man: man, Exp: exp}) {
		t.Errorf("%s: got %s, want %s", what, text(got), text(dyad.Dyad{Man: man, Exp: exp}))
	}
}

// equal tells whether a and b are the same in all their parts.
func equal(a, b dyad.Dyad) bool {
	return a.Man.Neg == b.Man.Neg && slices.Equal(a.Man.Mag, b.Man.Mag) && a.Exp == b.Exp
}

// text tells a for messages, by its length if it is long.
func text(a dyad.Dyad) string {
	if n := len(a.Man.Mag); n > 20 {
		return fmt.Sprintf("%d limbs ^ %d", n, a.Exp)
	}
	return fmt.Sprintf("%v ^ %d", toBig(a.Man), a.Exp)
}

func same[T comparable](t *testing.T, what string, got, want T) {
	t.Helper()
	if got != want {
		t.Errorf("%s: got %v, want %v", what, got, want)
	}
}

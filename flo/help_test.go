package flo_test

import (
	"fmt"
	"math"
	"math/big"
	"slices"
	"testing"

	"compass/api"
	"compass/dyad"
	"compass/nat"
	"compass/whole"
)

const (
	tiny  = math.SmallestNonzeroFloat64
	great = math.MaxFloat64
)

var (
	inf       = math.Inf(1)
	nan       = math.NaN()
	minusZero = math.Copysign(0, -1)
	// directions are all kinds of arguments dir; 0 counts as up.
	directions = [5]int{math.MinInt, api.Down, 0, api.Up, math.MaxInt}
)

// floats returns finite numbers other than 0 of all sizes, and many at the limits of exponents.
func floats() []float64 {
	var out []float64
	for field := uint64(0); field < 2047; field++ {
		x := field*2862933555777941757 + 3037000493
		for _, fraction := range []uint64{0, 1, 2, 1 << 51, 1<<51 - 1, 1<<52 - 2, 1<<52 - 1, x >> 12, x >> 12 &^ 0xffffff} {
			v := math.Float64frombits(field<<52 | fraction)
			if v != 0 {
				out = append(out, v, -v)
			}
		}
	}
	for n := range 53 {
		out = append(out, tiny*float64(uint64(1)<<n), -tiny*float64(uint64(3)<<n))
	}
	return out
}

func num(man, exp int) dyad.Dyad {
	return dyad.Make(whole.Of(man), exp)
}

// ones returns 2^n - 1.
func ones(n int) whole.Int {
	mag := slices.Repeat(nat.Nat{1<<64 - 1}, n/64)
	return whole.Make(false, append(mag, 1<<(n%64)-1))
}

// power returns 2^n.
func power(n int) whole.Int {
	return ones(n).Add(whole.Of(1))
}

// exact returns v, which must be finite, by means other than those of package flo.
func exact(v float64) dyad.Dyad {
	part, exp := math.Frexp(v)
	return num(int(math.Ldexp(part, 53)), exp-53)
}

// loose returns a in a representation that only arguments have: with a Man that is even or a negative 0,
// and that has limbs equal to 0 at its end.
func loose(a dyad.Dyad) dyad.Dyad {
	man := a.Man.Shl(67)
	return dyad.Dyad{Man: whole.Int{Neg: man.Neg || man.Sign() == 0, Mag: append(man.Mag, 0, 0)}, Exp: a.Exp - 67}
}

func clone(a dyad.Dyad) dyad.Dyad {
	return dyad.Dyad{Man: whole.Int{Neg: a.Man.Neg, Mag: slices.Clone(a.Man.Mag)}, Exp: a.Exp}
}

// equal tells whether a and b are the same in all their parts.
func equal(a, b dyad.Dyad) bool {
	return a.Man.Neg == b.Man.Neg && slices.Equal(a.Man.Mag, b.Man.Mag) && a.Exp == b.Exp
}

// toBig returns a as a number that is not rounded.
func toBig(a dyad.Dyad) *big.Float {
	words := make([]big.Word, len(a.Man.Mag))
	for i, limb := range a.Man.Mag {
		words[i] = big.Word(limb)
	}
	man := new(big.Float).SetInt(new(big.Int).SetBits(words))
	if a.Man.Neg {
		man.Neg(man)
	}
	return man.SetMantExp(man, a.Exp)
}

// text tells a for messages, by its length if it is long.
func text(a dyad.Dyad) string {
	if n := len(a.Man.Mag); n > 20 {
		return fmt.Sprintf("%d limbs ^ %d", n, a.Exp)
	}
	return fmt.Sprintf("%s ^ %d", a.Man.Text(), a.Exp)
}

// is checks that got is the number want; NaN is NaN, and 0 and -0 are two numbers.
func is(t *testing.T, what string, got, want float64) {
	t.Helper()
	if math.IsNaN(got) && math.IsNaN(want) {
		return
	}
	if math.Float64bits(got) != math.Float64bits(want) {
		t.Errorf("%s: got %v, want %v", what, got, want)
	}
}

func same[T comparable](t *testing.T, what string, got, want T) {
	t.Helper()
	if got != want {
		t.Errorf("%s: got %v, want %v", what, got, want)
	}
}

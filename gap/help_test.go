package gap_test

import (
	"math"
	"math/big"
	"slices"
	"testing"

	"compass/dyad"
	"compass/gap"
	"compass/whole"
)

const (
	tiny  = math.SmallestNonzeroFloat64
	great = math.MaxFloat64
	// normal is the least number that has all its bits.
	normal = 0x1p-1022
)

var (
	inf       = math.Inf(1)
	nan       = math.NaN()
	minusZero = math.Copysign(0, -1)
)

func from(lo, hi float64) gap.Gap {
	return gap.Gap{Lo: lo, Hi: hi}
}

// all is what All must return.
var all = from(-inf, inf)

// unknown returns Gaps of all kinds that are unknown.
func unknown() []gap.Gap {
	return []gap.Gap{
		all, from(inf, -inf), from(1, inf), from(-inf, 1), from(inf, inf), from(-inf, -inf), from(inf, 1), from(1, -inf),
		from(nan, 1), from(1, nan), from(nan, nan), from(nan, inf), from(-inf, nan), from(2, 1), from(tiny, 0),
		from(0, -tiny), from(great, -great), from(-1, math.Nextafter(-1, -2)),
	}
}

// known returns Gaps of all signs and sizes, in single numbers and in wide ones.
func known() []gap.Gap {
	ends := []float64{
		-great, -1e200, -3, -1, -0.1, -normal, -tiny, 0, tiny, 5e-320, 1e-200, 0.7, 1, 7.25, 1e200, great,
	}
	var out []gap.Gap
	for i, lo := range ends {
		for _, hi := range ends[i:] {
			out = append(out, from(lo, hi))
		}
	}
	return append(out, from(minusZero, minusZero), from(minusZero, 0), from(0, minusZero), from(-1, minusZero), from(minusZero, 1))
}

// floats returns finite numbers of all sizes and signs.
func floats() []float64 {
	out := []float64{
		0, minusZero, tiny, 2 * tiny, 3 * tiny, normal, normal - tiny, normal + tiny, 1, 2, 3, 0.1, 1 - 0x1p-53, 1 + 0x1p-52,
		1<<53 - 1, 1 << 53, 1e16, great, math.Nextafter(great, 0), great / 2, math.Sqrt(great), math.Sqrt(normal), math.Sqrt(tiny),
	}
	for field := uint64(3); field < 2047; field += 97 {
		x := field*2862933555777941757 + 3037000493
		out = append(out, math.Float64frombits(field<<52|x>>12))
	}
	for _, v := range slices.Clone(out) {
		out = append(out, -v)
	}
	return out
}

func num(man, exp int) dyad.Dyad {
	return dyad.Make(whole.Of(man), exp)
}

// exact returns v, which must be finite, by means other than those of package flo.
func exact(v float64) dyad.Dyad {
	part, exp := math.Frexp(v)
	return num(int(math.Ldexp(part, 53)), exp-53)
}

// loose returns a in a representation that only arguments have: with a Man that is even or a negative 0,
// and that has limbs equal to 0 at its end.
func loose(a dyad.Dyad) dyad.Dyad {
	man := a.Man.Shl(67)
	return dyad.Dyad{Man: whole.Int{Neg: man.Neg || man.Sign() == 0, Mag: append(man.Mag, 0, 0)}, Exp: a.Exp - 67}
}

func clone(a dyad.Dyad) dyad.Dyad {
	return dyad.Dyad{Man: whole.Int{Neg: a.Man.Neg, Mag: slices.Clone(a.Man.Mag)}, Exp: a.Exp}
}

// equal tells whether a and b are the same in all their parts.
func equal(a, b dyad.Dyad) bool {
	return a.Man.Neg == b.Man.Neg && slices.Equal(a.Man.Mag, b.Man.Mag) && a.Exp == b.Exp
}

func rat(v float64) *big.Rat {
	return new(big.Rat).SetFloat64(v)
}

// least and greatest return the least and the greatest of results.
func least(results []*big.Rat) *big.Rat {
	return slices.MinFunc(results, (*big.Rat).Cmp)
}

func greatest(results []*big.Rat) *big.Rat {
	return slices.MaxFunc(results, (*big.Rat).Cmp)
}

// away returns the number n numbers away from v in the direction of to.
func away(v, to float64, n int) float64 {
	for range n {
		v = math.Nextafter(v, to)
	}
	return v
}

// isNear checks that got contains lo and hi and that its ends are at most three numbers away from the numbers
// next to them, or that it is All() if it may be.
func isNear(t *testing.T, what string, got gap.Gap, lo, hi *big.Rat) {
	t.Helper()
	if got == all {
		safe := away(great, 0, 3)
		if lo.Cmp(rat(-safe)) >= 0 && hi.Cmp(rat(safe)) <= 0 {
			t.Errorf("%s: All(), but the ends are finite", what)
		}
		return
	}
	if !isKnown(got) {
		t.Errorf("%s: got %v, which is neither known nor All()", what, got)
		return
	}
	if rat(got.Lo).Cmp(lo) > 0 || rat(got.Hi).Cmp(hi) < 0 {
		t.Errorf("%s: got %v, which does not contain all results", what, got)
	}
	// The fourth number inwards must be beyond the exact end, or the number next to that is farther away.
	if beyond(away(got.Lo, inf, 4), lo) <= 0 || beyond(away(got.Hi, -inf, 4), hi) >= 0 {
		t.Errorf("%s: got %v, which is too wide", what, got)
	}
}

// beyond compares v, which may be infinite, with x.
func beyond(v float64, x *big.Rat) int {
	switch {
	case math.IsInf(v, 1):
		return 1
	case math.IsInf(v, -1):
		return -1
	}
	return rat(v).Cmp(x)
}

// isKnown tells what Known must return.
func isKnown(a gap.Gap) bool {
	return math.Abs(a.Lo) <= great && math.Abs(a.Hi) <= great && a.Lo <= a.Hi
}

func same[T comparable](t *testing.T, what string, got, want T) {
	t.Helper()
	if got != want {
		t.Errorf("%s: got %v, want %v", what, got, want)
	}
}

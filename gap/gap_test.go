package gap_test

import (
	"fmt"
	"math"
	"math/big"
	"testing"

	"compass/dyad"
	"compass/gap"
)

func TestP701All(t *testing.T) {
	same(t, "All", gap.All(), all)
	same(t, "All is known", gap.All().Known(), false)
}

func TestP701At(t *testing.T) {
	for _, v := range floats() {
		got := gap.At(v)
		same(t, fmt.Sprint("At ", v), got, from(v, v))
		same(t, fmt.Sprint("Known of At ", v), got.Known(), true)
	}
	for _, v := range []float64{inf, -inf, nan, -nan, math.Float64frombits(0x7ff0000000000001)} {
		same(t, fmt.Sprint("At ", v), gap.At(v), all)
	}
}

func TestP701Known(t *testing.T) {
	for _, a := range unknown() {
		same(t, fmt.Sprint("Known of ", a), a.Known(), false)
	}
	for _, a := range known() {
		same(t, fmt.Sprint("Known of ", a), a.Known(), true)
	}
	same(t, "Known of the zero Gap", gap.Gap{}.Known(), true)
}

func TestP701Sign(t *testing.T) {
	type answer struct {
		sign int
		ok   bool
	}
	sign := func(a gap.Gap) answer {
		s, ok := a.Sign()
		return answer{s, ok}
	}
	tests := []struct {
		a    gap.Gap
		want answer
	}{
		{from(1, 2), answer{1, true}},
		{from(tiny, tiny), answer{1, true}},
		{from(tiny, great), answer{1, true}},
		{from(-2, -1), answer{-1, true}},
		{from(-tiny, -tiny), answer{-1, true}},
		{from(-great, -tiny), answer{-1, true}},
		{from(0, 0), answer{0, true}},
		{from(minusZero, minusZero), answer{0, true}},
		{from(minusZero, 0), answer{0, true}},
		{from(0, minusZero), answer{0, true}},
		{from(0, 1), answer{0, false}},
		{from(minusZero, tiny), answer{0, false}},
		{from(-1, 0), answer{0, false}},
		{from(-tiny, minusZero), answer{0, false}},
		{from(-1, 1), answer{0, false}},
		{from(-great, great), answer{0, false}},
	}
	for _, test := range tests {
		same(t, fmt.Sprint("Sign of ", test.a), sign(test.a), test.want)
	}
	for _, a := range unknown() {
		same(t, fmt.Sprint("Sign of ", a), sign(a), answer{})
	}
}

func TestP701HasFloats(t *testing.T) {
	values := append(floats(), -3, -1, -0.1, 5e-320, 0.7, 7.25)
	for _, a := range known() {
		for _, v := range values {
			want := a.Lo <= v && v <= a.Hi
			same(t, fmt.Sprint(a, " Has ", v), a.Has(exact(v)), want)
		}
	}
}

func TestP701HasBetweenFloats(t *testing.T) {
	// These numbers lie between one end and the float64 number next to it, or beyond all of them.
	one, least, most := num(1<<60, -60), exact(tiny), exact(great)
	tests := []struct {
		a    gap.Gap
		x    dyad.Dyad
		want bool
	}{
		{from(1, 2), one.Sub(num(1, -2000)), false},
		{from(1, 2), one.Add(num(1, -2000)), true},
		{from(0, 1), one.Sub(num(1, -2000)), true},
		{from(0, 1), one.Add(num(1, -2000)), false},
		{from(-2, -1), one.Not().Add(num(1, -60)), false},
		{from(-2, -1), one.Not().Sub(num(1, -60)), true},
		{from(-1, 0), one.Not().Add(num(1, -60)), true},
		{from(-1, 0), one.Not().Sub(num(1, -60)), false},
		{from(1, 1), one, true},
		{from(1, 1), num(1<<60+1, -60), false},
		{from(1, 1), num(1<<60-1, -60), false},
		{from(0, 0), num(1, -dyad.MaxExp), false},
		{from(0, 0), num(-1, -dyad.MaxExp), false},
		{from(0, tiny), num(1, -dyad.MaxExp), true},
		{from(0, tiny), num(-1, -dyad.MaxExp), false},
		{from(-tiny, minusZero), num(-1, -dyad.MaxExp), true},
		{from(-tiny, minusZero), num(1, -dyad.MaxExp), false},
		{from(tiny, 1), least.Mul(num(1, -1)), false},
		{from(0, great), most, true},
		{from(0, great), most.Add(num(1, -1074)), false},
		{from(0, great), most.Sub(num(1, -1074)), true},
		{from(-great, 0), most.Not(), true},
		{from(-great, 0), most.Not().Sub(num(1, -1074)), false},
		{from(-great, great), num(1, dyad.MaxExp), false},
		{from(-great, great), num(-1, dyad.MaxExp), false},
		{from(great, great), num(1, dyad.MaxExp), false},
	}
	for i, test := range tests {
		for _, x := range []dyad.Dyad{test.x, loose(test.x)} {
			before := clone(x)
			same(t, fmt.Sprint("Has ", i, test.a), test.a.Has(x), test.want)
			same(t, fmt.Sprint("x unchanged ", i), equal(x, before), true)
		}
	}
}

func TestP701HasUnknown(t *testing.T) {
	for _, a := range unknown() {
		for _, x := range []dyad.Dyad{{}, num(1, 0), num(-9, 0), num(1, dyad.MaxExp), num(-1, dyad.MaxExp), num(1, -dyad.MaxExp)} {
			same(t, fmt.Sprint(a, " Has"), a.Has(x), true)
		}
	}
}

func TestP701UnknownOperands(t *testing.T) {
	others := append(known(), unknown()...)
	for _, a := range unknown() {
		for _, b := range others {
			for _, pair := range [][2]gap.Gap{{a, b}, {b, a}} {
				what := fmt.Sprint(pair)
				same(t, what+" Add", pair[0].Add(pair[1]), all)
				same(t, what+" Sub", pair[0].Sub(pair[1]), all)
				same(t, what+" Mul", pair[0].Mul(pair[1]), all)
				same(t, what+" Quo", pair[0].Quo(pair[1]), all)
			}
		}
		same(t, fmt.Sprint(a, " Sqrt"), a.Sqrt(), all)
	}
}

// results returns the results of an operation on the ends of a and b, between which all others lie.
func results(op func(z, x, y *big.Rat) *big.Rat, a, b gap.Gap) []*big.Rat {
	var out []*big.Rat
	for _, x := range []*big.Rat{rat(a.Lo), rat(a.Hi)} {
		for _, y := range []*big.Rat{rat(b.Lo), rat(b.Hi)} {
			out = append(out, op(new(big.Rat), x, y))
		}
	}
	return out
}

// checkAll checks the four operations on a and b.
func checkAll(t *testing.T, a, b gap.Gap) {
	t.Helper()
	what := fmt.Sprint(a, b)
	sums := results((*big.Rat).Add, a, b)
	isNear(t, what+" Add", a.Add(b), least(sums), greatest(sums))
	differences := results((*big.Rat).Sub, a, b)
	isNear(t, what+" Sub", a.Sub(b), least(differences), greatest(differences))
	products := results((*big.Rat).Mul, a, b)
	isNear(t, what+" Mul", a.Mul(b), least(products), greatest(products))
	if b.Lo <= 0 && b.Hi >= 0 {
		same(t, what+" Quo", a.Quo(b), all)
		return
	}
	quotients := results((*big.Rat).Quo, a, b)
	isNear(t, what+" Quo", a.Quo(b), least(quotients), greatest(quotients))
}

func TestP701SingleNumbers(t *testing.T) {
	for _, v := range floats() {
		for _, w := range floats() {
			checkAll(t, gap.At(v), gap.At(w))
		}
	}
}

func TestP701WideGaps(t *testing.T) {
	for _, a := range known() {
		for i, b := range known() {
			// The exact results take time, and every other Gap, of all pairs of ends, is enough.
			if i%2 == 0 {
				checkAll(t, a, b)
			}
		}
	}
}

func TestP701AwayFromExactResults(t *testing.T) {
	// Results that are float64 numbers themselves, where a step too many would not be seen otherwise.
	one, two, three := gap.At(1), gap.At(2), gap.At(3)
	tests := []struct {
		what string
		got  gap.Gap
		want float64
	}{
		{"1 + 2", one.Add(two), 3},
		{"1 - 2", one.Sub(two), -1},
		{"1 - 1", one.Sub(one), 0},
		{"2 * 3", two.Mul(three), 6},
		{"0 * 3", gap.At(0).Mul(three), 0},
		{"-0 * 3", gap.At(minusZero).Mul(three), 0},
		{"3 / 2", three.Quo(two), 1.5},
		{"-0 / 3", gap.At(minusZero).Quo(three), 0},
		{"root of 9", gap.At(9).Sqrt(), 3},
		{"root of 0", gap.At(0).Sqrt(), 0},
		{"root of -0", gap.At(minusZero).Sqrt(), 0},
	}
	for _, test := range tests {
		isNear(t, test.what, test.got, rat(test.want), rat(test.want))
		same(t, test.what+" Known", test.got.Known(), true)
	}
}

func TestP701SmallResults(t *testing.T) {
	// These results are between 0 and the least number, so that one end is 0 or beyond it.
	small := gap.At(1e-300)
	half := new(big.Rat).Mul(rat(1e-300), rat(1e-300))
	minus := new(big.Rat).Neg(half)
	isNear(t, "small product", small.Mul(small), half, half)
	isNear(t, "small negative product", small.Mul(gap.At(-1e-300)), minus, minus)
	quotient := new(big.Rat).Quo(rat(-1e-300), rat(1e300))
	isNear(t, "small quotient", gap.At(-1e-300).Quo(gap.At(1e300)), quotient, quotient)
	isNear(t, "half of the least", gap.At(tiny).Quo(gap.At(2)), new(big.Rat).Quo(rat(tiny), rat(2)), new(big.Rat).Quo(rat(tiny), rat(2)))
}

func TestP701BeyondGreatest(t *testing.T) {
	most, least := gap.At(great), gap.At(-great)
	tests := []struct {
		what string
		got  gap.Gap
	}{
		{"great + great", most.Add(most)},
		{"great + a quarter of a step", most.Add(gap.At(0x1p969))},
		{"great + tiny", most.Add(gap.At(tiny))},
		{"-great - great", least.Sub(most)},
		{"-great - tiny", least.Sub(gap.At(tiny))},
		{"great * great", most.Mul(most)},
		{"great * -2", most.Mul(gap.At(-2))},
		{"great * 1+", most.Mul(gap.At(math.Nextafter(1, 2)))},
		{"great / 1-", most.Quo(gap.At(math.Nextafter(1, 0)))},
		{"1 / tiny", gap.At(1).Quo(gap.At(tiny))},
		{"1 / -tiny", gap.At(1).Quo(gap.At(-tiny))},
		{"one end", from(0, great).Add(from(0, great))},
		{"one end below", from(-great, 0).Sub(from(0, great))},
		{"one end of a product", from(1, 1e200).Mul(from(-1e200, 1))},
		{"one end of a quotient", from(1, 2).Quo(from(tiny, 2))},
	}
	for _, test := range tests {
		same(t, test.what, test.got, all)
	}
	// Four steps below the greatest number, there must be a result.
	near := math.Nextafter(away(great, 0, 3), 0)
	same(t, "near great", gap.At(near).Mul(gap.At(1)).Known(), true)
	same(t, "near great", gap.At(-near).Sub(gap.At(0)).Known(), true)
	same(t, "0 of great", most.Sub(most).Known(), true)
	same(t, "1 of great", most.Quo(most).Known(), true)
}

func TestP701QuoByGapsWithZero(t *testing.T) {
	for _, a := range known() {
		for _, b := range []gap.Gap{
			{}, gap.At(minusZero), from(minusZero, 0), from(0, minusZero), from(0, 1), from(minusZero, 1), from(-1, 0),
			from(-1, minusZero), from(-1, 1), from(-tiny, tiny), from(-great, great),
		} {
			same(t, fmt.Sprint(a, " Quo ", b), a.Quo(b), all)
		}
	}
	same(t, "1 / 0", gap.At(1).Quo(gap.At(0)).Known(), false) // the example of the chapter
	same(t, "0 / 0", gap.At(0).Quo(gap.At(0)), all)
}

// checkRoot checks the root of a, whose Lo is not negative. The squares of its ends are compared.
func checkRoot(t *testing.T, a gap.Gap) {
	t.Helper()
	got := a.Sqrt()
	if !isKnown(got) {
		t.Errorf("Sqrt of %v: got %v, which is not known", a, got)
		return
	}
	if square(got.Lo).Cmp(rat(a.Lo)) > 0 || square(got.Hi).Cmp(rat(a.Hi)) < 0 {
		t.Errorf("Sqrt of %v: got %v, which does not contain all results", a, got)
	}
	if square(away(got.Lo, inf, 4)).Cmp(rat(a.Lo)) <= 0 || square(away(got.Hi, -inf, 4)).Cmp(rat(a.Hi)) >= 0 {
		t.Errorf("Sqrt of %v: got %v, which is too wide", a, got)
	}
}

// square returns the square of v, with the sign of v.
func square(v float64) *big.Rat {
	return new(big.Rat).Mul(rat(v), rat(math.Abs(v)))
}

func TestP701Sqrt(t *testing.T) {
	for _, v := range floats() {
		for _, w := range floats() {
			a := from(min(v, w), max(v, w))
			if a.Lo < 0 {
				same(t, fmt.Sprint("Sqrt of ", a), a.Sqrt(), all)
				continue
			}
			checkRoot(t, a)
		}
	}
	for _, a := range []gap.Gap{from(-1, 4), from(-tiny, 0), from(-tiny, minusZero), from(-great, great), gap.At(-1)} {
		same(t, fmt.Sprint("Sqrt of ", a), a.Sqrt(), all)
	}
	for _, a := range []gap.Gap{{}, gap.At(minusZero), from(minusZero, 4), from(0, minusZero), from(minusZero, great), from(2, 2)} {
		checkRoot(t, a)
	}
}

func TestP701SqrtOfSqrt(t *testing.T) {
	// The root of a Gap from 0 is itself one that has a root.
	a := from(0, 16)
	for range 10 {
		a = a.Sqrt()
		same(t, fmt.Sprint("Known of ", a), a.Known(), true)
	}
}

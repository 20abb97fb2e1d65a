package flo_test

import (
	"fmt"
	"math"
	"math/big"
	"testing"

	"compass/api"
	"compass/dyad"
	"compass/flo"
	"compass/whole"
)

func TestP401Finite(t *testing.T) {
	for _, v := range append(floats(), 0, minusZero, great, -great, tiny, -tiny) {
		same(t, fmt.Sprint(v), flo.Finite(v), true)
	}
	for _, v := range notFinite() {
		same(t, fmt.Sprint(v), flo.Finite(v), false)
	}
}

// notFinite returns the infinite numbers and NaN with several signs and fractions.
func notFinite() []float64 {
	out := []float64{inf, -inf, nan, -nan}
	for _, fraction := range []uint64{1, 1 << 51, 1<<52 - 1} {
		out = append(out, math.Float64frombits(2047<<52|fraction), math.Float64frombits(4095<<52|fraction))
	}
	return out
}

func TestP401Dyad(t *testing.T) {
	for _, c := range []struct {
		v        float64
		man, exp int
	}{
		{0, 0, 0}, {minusZero, 0, 0}, {1, 1, 0}, {-1, -1, 0}, {12, 3, 2}, {-1.5, -3, -1}, {0.1, 3602879701896397, -55},
		{1 << 53, 1, 53}, {1<<53 - 1, 1<<53 - 1, 0}, {great, 1<<53 - 1, 971}, {-great, 1 - 1<<53, 971},
		{tiny, 1, -1074}, {-tiny, -1, -1074}, {3 * tiny, 3, -1074}, {4 * tiny, 1, -1072},
		{0x1p-1022, 1, -1022}, {0x1p-1022 - tiny, 1<<52 - 1, -1074}, {0x1p-1022 + tiny, 1<<52 + 1, -1074},
		{0x1p-1021 + 2*tiny, 1<<52 + 1, -1073}, {-0x1p1023, -1, 1023},
	} {
		got, ok := flo.Dyad(c.v)
		same(t, fmt.Sprint(c), ok, true)
		same(t, fmt.Sprint(c), equal(got, num(c.man, c.exp)), true)
	}
	for _, v := range floats() {
		got, ok := flo.Dyad(v)
		same(t, fmt.Sprint(v), ok, true)
		same(t, fmt.Sprint(v), equal(got, exact(v)), true)
	}
}

func TestP401DyadOfNotFinite(t *testing.T) {
	for _, v := range notFinite() {
		got, ok := flo.Dyad(v)
		same(t, fmt.Sprint(v), ok, false)
		same(t, fmt.Sprint(v), equal(got, dyad.Dyad{}), true)
	}
}

// checkFloat compares Float of a number, also in a loose representation, with what it must return.
func checkFloat(t *testing.T, what string, a dyad.Dyad, below, above float64) {
	t.Helper()
	for _, dir := range directions {
		want := above
		if dir < 0 {
			want = below
		}
		is(t, fmt.Sprint(what, " in direction ", dir), flo.Float(a, dir), want)
		is(t, fmt.Sprint(what, " loose in direction ", dir), flo.Float(loose(a), dir), want)
	}
}

func TestP401FloatOfFloats(t *testing.T) {
	checkFloat(t, "0", dyad.Dyad{}, 0, 0)
	checkFloat(t, "0 with an exponent", dyad.Dyad{Man: whole.Int{Neg: true}, Exp: 99}, 0, 0)
	for _, v := range floats() {
		checkFloat(t, fmt.Sprint(v), exact(v), v, v)
	}
}

// TestP401FloatBetween checks numbers that lie between two float64 numbers: in the middle, close to one, and
// closer to it than any length of bits would show that is kept for rounding to the nearest.
func TestP401FloatBetween(t *testing.T) {
	for i, v := range floats() {
		next := math.Nextafter(v, inf)
		if math.IsInf(next, 0) {
			continue
		}
		above := next + 0 // without the sign that Nextafter gives a 0
		low, high := exact(v), exact(next)
		gap := high.Sub(low)
		checkFloat(t, fmt.Sprint(v, " and a half"), low.Add(gap.Mul(num(1, -1))), v, above)
		checkFloat(t, fmt.Sprint(v, " and more"), low.Add(gap.Mul(num(1, -1-i%300))), v, above)
		checkFloat(t, fmt.Sprint(v, " and less than the next"), high.Sub(gap.Mul(num(1, -1-i%300))), v, above)
	}
}

func TestP401FloatAtZero(t *testing.T) {
	for _, a := range []dyad.Dyad{
		num(1, -1075), num(1, -1076), num(3, -1076), num(1<<53-1, -1074-53), num(1<<60+1, -1074-61), num(1, -2000),
		num(1, -dyad.MaxExp), num(3, -dyad.MaxExp), {Man: ones(5000), Exp: -1074 - 5000}, {Man: ones(5000), Exp: -dyad.MaxExp},
		{Man: ones(5000), Exp: -1074 - 5001}, {Man: ones(5000), Exp: -1074 - 5064},
	} {
		checkFloat(t, text(a), a, 0, tiny)
		checkFloat(t, "minus "+text(a), a.Not(), -tiny, 0)
	}
	checkFloat(t, "more than the least", num(3, -1075), tiny, 2*tiny)
	checkFloat(t, "less than minus the least", num(-3, -1075), -2*tiny, -tiny)
}

func TestP401FloatBeyond(t *testing.T) {
	one := num(1, 0)
	for _, a := range []dyad.Dyad{
		num(1, 1024), num(1, 1024).Sub(one), num(1, 1024).Add(one), num(1<<54-1, 970), num(1<<53, 971), num(1, 1025),
		num(1<<60-1, 964), num(1, 5000), num(-3, dyad.MaxExp).Not(), {Man: ones(1024)}, {Man: ones(5000), Exp: 1024 - 5000},
		{Man: ones(5000), Exp: dyad.MaxExp}, {Man: power(6000), Exp: 1024 - 6000},
		exact(great).Add(num(1, -dyad.MaxExp)),
	} {
		checkFloat(t, "beyond", a, great, inf)
		checkFloat(t, "beyond, negative", a.Not(), -inf, -great)
	}
	checkFloat(t, "greatest", exact(great), great, great)
	checkFloat(t, "below the greatest", exact(great).Sub(one), great-0x1p971, great)
}

// TestP401FloatOfThird is the chapter's example.
func TestP401FloatOfThird(t *testing.T) {
	for _, dir := range []int{api.Down, api.Up} {
		third, _ := num(1, 0).Quo(num(3, 0), 200, dir)
		// The float64 number 1.0 / 3 is less than 1/3.
		checkFloat(t, "1/3", third, 1.0/3, math.Nextafter(1.0/3, 1))
		checkFloat(t, "-1/3", third.Not(), -math.Nextafter(1.0/3, 1), -1.0/3)
	}
}

// TestP401FloatByBig compares Float of numbers of many lengths and exponents with the rounding of math/big.
func TestP401FloatByBig(t *testing.T) {
	mans := []whole.Int{}
	for _, n := range []int{1, 2, 51, 52, 53, 54, 55, 63, 64, 65, 105, 106, 107, 128, 300, 1100} {
		mans = append(mans, power(n).Add(whole.Of(1)), ones(n), power(n), power(n).Add(power(n/2)).Add(whole.Of(1)))
	}
	for i, man := range mans {
		for exp := -1300 + i%7; exp < 1100; exp += 7 {
			a := dyad.Make(man, exp)
			x := toBig(a)
			checkFloat(t, text(a), a, directed(x, api.Down), directed(x, api.Up))
			checkFloat(t, "minus "+text(a), a.Not(), 0-directed(x, api.Up), 0-directed(x, api.Down))
		}
	}
}

// directed returns the float64 number next to x in a direction: the nearest one, or one beside it.
func directed(x *big.Float, dir int) float64 {
	v, side := x.Float64()
	switch {
	case dir < 0 && side == big.Above:
		return math.Nextafter(v, -inf)
	case dir >= 0 && side == big.Below:
		return math.Nextafter(v, inf)
	}
	return v
}

// TestP401FloatOfLongestMan checks numbers of MaxBits bits, at the exponents where they are float64 numbers.
func TestP401FloatOfLongestMan(t *testing.T) {
	man := ones(api.MaxBits)
	for _, c := range []struct {
		exp          int
		below, above float64
	}{
		{-api.MaxBits, math.Nextafter(1, 0), 1},
		{-api.MaxBits - 1074, 0, tiny},
		{-api.MaxBits - 1073, tiny, 2 * tiny},
		{-api.MaxBits + 1023, math.Nextafter(0x1p1023, 0), 0x1p1023},
		{-api.MaxBits + 1024, great, inf},
		{-dyad.MaxExp, great, inf},
	} {
		a := dyad.Dyad{Man: man, Exp: c.exp}
		for _, x := range []dyad.Dyad{a, {Man: whole.Int{Mag: append(man.Mag[:len(man.Mag):len(man.Mag)], 0)}, Exp: c.exp}} {
			is(t, fmt.Sprint("below, ", c.exp), flo.Float(x, api.Down), c.below)
			is(t, fmt.Sprint("above, ", c.exp), flo.Float(x, api.Up), c.above)
		}
		is(t, fmt.Sprint("below, negative, ", c.exp), flo.Float(a.Not(), api.Down), 0-c.above)
		is(t, fmt.Sprint("above, negative, ", c.exp), flo.Float(a.Not(), api.Up), 0-c.below)
	}
}

// TestP401FloatOfAnyExp checks exponents and lengths that no argument needs to have: they are numbers all the same.
func TestP401FloatOfAnyExp(t *testing.T) {
	for _, exp := range []int{dyad.MaxExp + 1, 1 << 40, math.MaxInt - 1, math.MaxInt} {
		for _, man := range []whole.Int{whole.Of(1), whole.Of(6), ones(200)} {
			is(t, fmt.Sprint(exp), flo.Float(dyad.Dyad{Man: man, Exp: exp}, api.Down), great)
			is(t, fmt.Sprint(exp), flo.Float(dyad.Dyad{Man: man, Exp: exp}, api.Up), inf)
			is(t, fmt.Sprint(-exp), flo.Float(dyad.Dyad{Man: man, Exp: -exp - 1}, api.Down), 0)
			is(t, fmt.Sprint(-exp), flo.Float(dyad.Dyad{Man: man, Exp: -exp - 1}, api.Up), tiny)
		}
		is(t, fmt.Sprint("0, ", exp), flo.Float(dyad.Dyad{Exp: exp}, api.Up), 0)
		is(t, fmt.Sprint("0, ", -exp), flo.Float(dyad.Dyad{Exp: -exp - 1}, api.Down), 0)
	}
	longer := dyad.Dyad{Man: ones(api.MaxBits + 1000), Exp: -api.MaxBits - 1000}
	is(t, "longer", flo.Float(longer, api.Down), math.Nextafter(1, 0))
	is(t, "longer", flo.Float(longer, api.Up), 1)
}

func TestP401ArgumentsAreKept(t *testing.T) {
	for _, a := range []dyad.Dyad{{}, num(3, 1), num(-1, -1075), {Man: ones(300), Exp: -200}, loose(num(5, 3)), loose(dyad.Dyad{})} {
		b := clone(a)
		for _, dir := range directions {
			flo.Float(b, dir)
			same(t, text(a), equal(a, b), true)
		}
	}
}

// checkStep checks the numbers next to v, by their bits.
func checkStep(t *testing.T, v, below, above float64) {
	t.Helper()
	for _, dir := range directions {
		want := above
		if dir < 0 {
			want = below
		}
		is(t, fmt.Sprint(v, " in direction ", dir), flo.Step(v, dir), want)
	}
}

func TestP402Step(t *testing.T) {
	checkStep(t, 1, 1-0x1p-53, 1+0x1p-52)
	checkStep(t, -1, -1-0x1p-52, -1+0x1p-53)
	checkStep(t, 0x1p-1022, 0x1p-1022-tiny, 0x1p-1022+tiny)
	checkStep(t, -0x1p-1022, -0x1p-1022-tiny, tiny-0x1p-1022)
	for _, v := range floats() {
		checkStep(t, v, math.Nextafter(v, -inf), math.Nextafter(v, inf))
	}
}

func TestP402StepAtZero(t *testing.T) {
	checkStep(t, 0, -tiny, tiny)
	checkStep(t, minusZero, -tiny, tiny)
	checkStep(t, tiny, 0, 2*tiny)
	checkStep(t, -tiny, -2*tiny, minusZero)
}

func TestP402StepAtTheEnds(t *testing.T) {
	before := math.Nextafter(great, 0)
	checkStep(t, great, before, inf)
	checkStep(t, -great, -inf, -before)
	checkStep(t, inf, great, inf)
	checkStep(t, -inf, -inf, -great)
	for _, v := range notFinite() {
		if math.IsNaN(v) {
			checkStep(t, v, nan, nan)
		}
	}
}

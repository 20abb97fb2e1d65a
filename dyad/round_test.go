package dyad_test

import (
	"fmt"
	"math"
	"math/big"
	"testing"

	"compass/api"
	"compass/dyad"
	"compass/nat"
	"compass/whole"
)

// floor returns x rounded down to an integer.
func floor(x *big.Rat) *big.Int {
	// The denominator is positive, for which Div of math/big rounds down.
	return new(big.Int).Div(x.Num(), x.Denom())
}

// topOf returns the least n such that 2^n is greater than x, which is positive.
func topOf(x *big.Rat) int {
	n := x.Num().BitLen() - x.Denom().BitLen()
	for scale(big.NewRat(1, 1), n).Cmp(x) <= 0 {
		n++
	}
	return n
}

// rounded returns x rounded to p bits.
func rounded(x *big.Rat, p, dir int) *big.Rat {
	switch {
	case x.Sign() == 0:
		return x
	case dir >= 0:
		x = rounded(new(big.Rat).Neg(x), p, api.Down)
		return x.Neg(x)
	}
	step := topOf(new(big.Rat).Abs(x)) - p
	return scale(new(big.Rat).SetInt(floor(scale(x, -step))), step)
}

// rootOf returns the root of x, which is not negative, rounded to p bits.
func rootOf(x *big.Rat, p, dir int) *big.Rat {
	if x.Sign() == 0 {
		return x
	}
	// For x from 2^(n-1) to below 2^n, the least power of two greater than the root is that of n/2, rounded up.
	step := (topOf(x)+1)>>1 - p
	root := new(big.Rat).SetInt(new(big.Int).Sqrt(floor(scale(x, -2*step))))
	if dir >= 0 && new(big.Rat).Mul(root, root).Cmp(scale(x, -2*step)) < 0 {
		root.Add(root, big.NewRat(1, 1))
	}
	return scale(root, step)
}

var directions = [5]int{math.MinInt, api.Down, 0, api.Up, math.MaxInt}

// checkRound compares Round, Quo and Sqrt of a number, also in a loose representation, with math/big.
func checkRound(t *testing.T, x, y dyad.Dyad, p, dir int) {
	t.Helper()
	exact := toRat(x)
	for _, a := range []dyad.Dyad{x, loose(x)} {
		what := fmt.Sprint(text(a), " to ", p, " bits, ", dir)
		isRat(t, what, a.Round(p, dir), rounded(exact, p, dir))
		root, ok := a.Sqrt(p, dir)
		same(t, "root of "+what, ok, exact.Sign() >= 0)
		if !ok {
			is(t, "root of "+what, root, whole.Int{}, 0)
		} else {
			isRat(t, "root of "+what, root, rootOf(exact, p, dir))
		}
		for _, b := range []dyad.Dyad{y, loose(y)} {
			quo, ok := a.Quo(b, p, dir)
			same(t, "quotient of "+what, ok, b.Sign() != 0)
			if !ok {
				is(t, "quotient of "+what, quo, whole.Int{}, 0)
			} else {
				isRat(t, text(b)+", quotient of "+what, quo, rounded(new(big.Rat).Quo(exact, toRat(b)), p, dir))
			}
		}
	}
}

func TestP302Small(t *testing.T) {
	for man := -35; man <= 35; man++ {
		for _, divisor := range []int{-7, -3, -1, 0, 1, 2, 5, 24} {
			for p := 1; p <= 7; p++ {
				checkRound(t, num(man, man%3), num(divisor, 1), p, api.Down)
				checkRound(t, num(man, man%3), num(divisor, 1), p, api.Up)
			}
		}
	}
}

func TestP302Samples(t *testing.T) {
	for i, a := range samples() {
		for j, b := range samples() {
			for k, p := range []int{1, 2, 53, 63, 64, 65, 128, 200, 700} {
				checkRound(t, a, b, p, directions[(i+j+k)%len(directions)])
			}
		}
	}
}

func TestP302Round(t *testing.T) {
	for _, c := range []struct{ man, exp, p, dir, wantMan, wantExp int }{
		{7, 0, 2, api.Down, 3, 1},
		{7, 0, 2, api.Up, 1, 3},
		{7, 0, 2, 0, 1, 3},
		{-7, 0, 2, api.Down, -1, 3},
		{-7, 0, 2, api.Up, -3, 1},
		{-7, 0, 2, 0, -3, 1},
		{7, 3, 3, api.Down, 7, 3},
		{5, -4, 1, api.Down, 1, -2},
		{5, -4, 1, api.Up, 1, -1},
		{0, 0, 1, api.Up, 0, 0},
		{5, dyad.MaxExp, 2, api.Up, 3, dyad.MaxExp + 1},
		{5, -dyad.MaxExp, 2, api.Down, 1, -dyad.MaxExp + 2},
	} {
		is(t, fmt.Sprint(c), num(c.man, c.exp).Round(c.p, c.dir), whole.Of(c.wantMan), c.wantExp)
	}
	// 12 has four bits, but is 3 times 4.
	is(t, "even", dyad.Dyad{Man: whole.Of(12)}.Round(2, api.Up), whole.Of(3), 2)
	is(t, "loose 0", loose(num(0, 0)).Round(2, api.Up), whole.Int{}, 0)
}

func TestP302Quo(t *testing.T) {
	quo := func(a, b dyad.Dyad, p, dir, man, exp int) {
		t.Helper()
		got, ok := a.Quo(b, p, dir)
		same(t, text(a)+" by "+text(b), ok, true)
		is(t, text(a)+" by "+text(b), got, whole.Of(man), exp)
	}
	quo(num(1, 0), num(3, 0), 2, api.Down, 1, -2) // the examples of the chapter
	quo(num(1, 0), num(3, 0), 2, api.Up, 3, -3)
	quo(num(-1, 0), num(3, 0), 2, api.Down, -3, -3)
	quo(num(1, 0), num(-3, 0), 2, api.Up, -1, -2)
	quo(num(-1, 0), num(-3, 0), 2, 0, 3, -3)
	quo(num(6, 0), num(3, 0), 5, api.Up, 1, 1)
	quo(num(0, 0), num(-3, 0), 5, api.Up, 0, 0)
	quo(num(1, dyad.MaxExp), num(1, -dyad.MaxExp), 5, api.Down, 1, 2*dyad.MaxExp)
	quo(num(1, -dyad.MaxExp), num(3, dyad.MaxExp), 1, api.Up, 1, -2*dyad.MaxExp-1)
	for _, zero := range []dyad.Dyad{{}, {Exp: 9}, {Man: whole.Int{Neg: true}}, loose(num(0, 0))} {
		for _, a := range []dyad.Dyad{num(3, 1), num(-3, 1), {}, zero} {
			for _, dir := range directions {
				got, ok := a.Quo(zero, 5, dir)
				same(t, text(a)+" by 0", ok, false)
				is(t, text(a)+" by 0", got, whole.Int{}, 0)
			}
		}
	}
}

func TestP302Sqrt(t *testing.T) {
	root := func(a dyad.Dyad, p, dir, man, exp int) {
		t.Helper()
		got, ok := a.Sqrt(p, dir)
		same(t, "root of "+text(a), ok, true)
		is(t, "root of "+text(a), got, whole.Of(man), exp)
	}
	root(num(2, 0), 3, api.Down, 5, -2)
	root(num(2, 0), 3, api.Up, 3, -1)
	root(num(2, 0), 3, 0, 3, -1)
	root(num(9, 0), 2, api.Up, 3, 0)
	root(num(9, 0), 1, api.Down, 1, 1)
	root(num(9, 0), 1, api.Up, 1, 2)
	root(num(1, -3), 2, api.Down, 1, -2)
	root(num(9, -4), 9, api.Down, 3, -2)
	root(num(1, dyad.MaxExp), 9, api.Down, 1, dyad.MaxExp/2)
	root(num(1, -dyad.MaxExp), 9, api.Up, 1, -dyad.MaxExp/2)
	root(num(1, 1-dyad.MaxExp), 1, api.Up, 1, 1-dyad.MaxExp/2)
	for _, zero := range []dyad.Dyad{{}, {Exp: 9}, {Man: whole.Int{Neg: true}, Exp: 3}, loose(num(0, 0))} {
		root(zero, 9, api.Up, 0, 0)
	}
	for _, a := range []dyad.Dyad{num(-1, 0), num(-4, 0), num(-1, -dyad.MaxExp), loose(num(-5, 3)), dyad.Make(long(1, 9), 0)} {
		got, ok := a.Sqrt(9, api.Up)
		same(t, "root of "+text(a), ok, false)
		is(t, "root of "+text(a), got, whole.Int{}, 0)
	}
}

// TestP302Squares takes roots of squares and of numbers next to them, where the last bits decide on the result.
func TestP302Squares(t *testing.T) {
	one := num(1, 0)
	for i := range 12 {
		side := dyad.Make(long(2*i, 1+i/2), 0)
		square := side.Mul(side)
		for p := max(1, side.Top()-2); p <= side.Top()+2; p++ {
			for _, dir := range []int{api.Down, api.Up} {
				checkRound(t, square, side, p, dir)
				checkRound(t, square.Add(one), side, p, dir)
				checkRound(t, square.Sub(one), side, p, dir)
			}
		}
	}
}

// TestP302Bits checks that a p outside the limits counts as the nearest limit.
func TestP302Bits(t *testing.T) {
	a, b := dyad.Make(long(6, 1100), 3), dyad.Make(long(8, 1050), -9)
	same(t, "more bits than the limit", nat.Bits(b.Man.Mag) > api.MaxP, true)
	for _, dir := range []int{api.Down, api.Up} {
		for _, c := range []struct{ p, counts int }{
			{0, 1}, {-1, 1}, {math.MinInt, 1}, {api.MaxP + 1, api.MaxP}, {1 << 40, api.MaxP}, {math.MaxInt, api.MaxP},
		} {
			what := fmt.Sprint("p ", c.p, " dir ", dir)
			round, want := a.Round(c.p, dir), a.Round(c.counts, dir)
			is(t, what, round, want.Man, want.Exp)
			quo, _ := a.Quo(b, c.p, dir)
			want, _ = a.Quo(b, c.counts, dir)
			is(t, what+": quotient", quo, want.Man, want.Exp)
			root, _ := a.Sqrt(c.p, dir)
			want, _ = a.Sqrt(c.counts, dir)
			is(t, what+": root", root, want.Man, want.Exp)
		}
		checkRound(t, a, b, api.MaxP, dir)
		checkRound(t, a, b, api.MaxP-1, dir)
	}
}

// TestP302LongestMan checks arguments with MaxBits bits. Quotients by them need longer shifts than package whole has.
func TestP302LongestMan(t *testing.T) {
	longest := dyad.Dyad{Man: power(api.MaxBits).Sub(whole.Of(1)), Exp: 1}
	is(t, "down", longest.Round(3, api.Down), whole.Of(7), api.MaxBits-2)
	is(t, "up", longest.Round(3, api.Up), whole.Of(1), api.MaxBits+1)
	is(t, "down to one bit", longest.Not().Round(0, api.Down), whole.Of(-1), api.MaxBits+1)
	// Sums of numbers in range may have even more bits.
	sum := longest.Add(num(1, -dyad.MaxExp))
	is(t, "sum down", sum.Round(3, api.Down), whole.Of(7), api.MaxBits-2)
	is(t, "sum up", sum.Round(3, api.Up), whole.Of(1), api.MaxBits+1)
	is(t, "negative sum down", sum.Not().Round(3, api.Down), whole.Of(-1), api.MaxBits+1)
	is(t, "negative sum up", sum.Not().Round(3, api.Up), whole.Of(-7), api.MaxBits-2)
	for _, c := range []struct {
		a, b            dyad.Dyad
		p, dir, man, at int
	}{
		{num(1, 0), longest, 3, api.Down, 1, -api.MaxBits - 1},
		{num(1, 0), longest, 3, api.Up, 5, -api.MaxBits - 3},
		{num(-1, 0), longest, 3, api.Down, -5, -api.MaxBits - 3},
		{num(1, 0), longest, api.MaxP, api.Down, 1, -api.MaxBits - 1},
		{longest, num(3, 0), 2, api.Down, 1, api.MaxBits - 1},
		{longest, num(5, 0), 2, api.Down, 3, api.MaxBits - 3},
		{longest, num(5, 0), 2, api.Up, 1, api.MaxBits - 1},
		{longest, longest, 9, api.Up, 1, 0},
		{dyad.Dyad{Man: power(api.MaxBits - 1)}, num(1, 0), 9, api.Up, 1, api.MaxBits - 1},
		{num(1, 0), dyad.Dyad{Man: power(api.MaxBits - 1)}, api.MaxP, api.Up, 1, 1 - api.MaxBits},
	} {
		got, ok := c.a.Quo(c.b, c.p, c.dir)
		same(t, fmt.Sprint(text(c.a), " by ", text(c.b)), ok, true)
		is(t, fmt.Sprint(text(c.a), " by ", text(c.b)), got, whole.Of(c.man), c.at)
	}
	checkLongRoot(t, dyad.Dyad{Man: longest.Man, Exp: 0}, 3, api.Down, 7, api.MaxBits/2-3)
	checkLongRoot(t, dyad.Dyad{Man: longest.Man, Exp: 0}, 3, api.Up, 1, api.MaxBits/2)
	// Only the last bit tells a number from a square, far below the bits of which the root is made.
	even := power(api.MaxBits - 2)
	checkLongRoot(t, dyad.Dyad{Man: even}, 3, api.Up, 1, api.MaxBits/2-1)
	checkLongRoot(t, dyad.Dyad{Man: even.Add(whole.Of(1))}, 3, api.Down, 1, api.MaxBits/2-1)
	checkLongRoot(t, dyad.Dyad{Man: even.Add(whole.Of(1))}, 3, api.Up, 5, api.MaxBits/2-3)
}

func checkLongRoot(t *testing.T, a dyad.Dyad, p, dir, man, exp int) {
	t.Helper()
	root, ok := a.Sqrt(p, dir)
	same(t, "root of "+text(a), ok, true)
	is(t, fmt.Sprint("root of ", text(a), " in direction ", dir), root, whole.Of(man), exp)
}

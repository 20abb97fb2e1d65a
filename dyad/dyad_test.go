package dyad_test

import (
	"fmt"
	"math"
	"math/big"
	"testing"

	"compass/api"
	"compass/dyad"
	"compass/nat"
	"compass/whole"
)

func TestP301Make(t *testing.T) {
	is(t, "odd", num(3, 5), whole.Of(3), 5)
	is(t, "even", num(12, 3), whole.Of(3), 5)
	is(t, "negative", num(-12, -3), whole.Of(-3), -1)
	is(t, "0", num(0, 7), whole.Int{}, 0)
	is(t, "negative 0", dyad.Make(whole.Int{Neg: true}, 7), whole.Int{}, 0)
	is(t, "negative 0 with limbs", dyad.Make(whole.Int{Neg: true, Mag: nat.Nat{0, 0}}, -7), whole.Int{}, 0)
	is(t, "padded", dyad.Make(whole.Int{Neg: true, Mag: nat.Nat{0, 6, 0}}, 1), whole.Of(-3), 66)
	is(t, "whole limbs", dyad.Make(whole.Int{Mag: nat.Nat{0, 0, 1}}, -128), whole.Of(1), 0)
	is(t, "several limbs", dyad.Make(whole.Int{Mag: nat.Nat{1 << 63, 1, 0}}, 0), whole.Of(3), 63)
}

func TestP301Of(t *testing.T) {
	is(t, "0", dyad.Of(0), whole.Int{}, 0)
	is(t, "-6", dyad.Of(-6), whole.Of(-3), 1)
	is(t, "7", dyad.Of(7), whole.Of(7), 0)
	is(t, "greatest", dyad.Of(math.MaxInt), whole.Of(math.MaxInt), 0)
	is(t, "least", dyad.Of(math.MinInt), whole.Of(-1), 63)
}

func TestP301Sign(t *testing.T) {
	for _, c := range []struct{ man, exp, want int }{{5, -9, 1}, {-5, 9, -1}, {0, 0, 0}, {1, -dyad.MaxExp, 1}, {-1, dyad.MaxExp, -1}} {
		same(t, fmt.Sprint(c), num(c.man, c.exp).Sign(), c.want)
		same(t, fmt.Sprint(c, " loose"), loose(num(c.man, c.exp)).Sign(), c.want)
	}
}

func TestP301Not(t *testing.T) {
	is(t, "of 5", num(5, 2).Not(), whole.Of(-5), 2)
	is(t, "of -5", num(-5, 2).Not(), whole.Of(5), 2)
	is(t, "of 0", num(0, 0).Not(), whole.Int{}, 0)
	is(t, "of a loose 0", loose(num(0, 0)).Not(), whole.Int{}, 0)
	is(t, "of a loose number", loose(num(-5, 2)).Not(), whole.Of(5), 2)
}

func TestP301Top(t *testing.T) {
	for _, c := range []struct{ man, exp, want int }{
		{0, 0, 0}, {1, 0, 1}, {7, 0, 3}, {8, 0, 4}, {9, 0, 4}, {-8, 0, 4}, {-7, 0, 3}, {1, -1, 0}, {1, -3, -2}, {3, -3, -1},
		{1, dyad.MaxExp, dyad.MaxExp + 1}, {-1, -dyad.MaxExp, -dyad.MaxExp + 1},
	} {
		same(t, fmt.Sprint(c), num(c.man, c.exp).Top(), c.want)
		same(t, fmt.Sprint(c, " loose"), loose(num(c.man, c.exp)).Top(), c.want)
	}
}

// TestP301Pairs compares all operations on two numbers with those of math/big, also for loose arguments.
func TestP301Pairs(t *testing.T) {
	for _, x := range samples() {
		for _, y := range samples() {
			p, q := toRat(x), toRat(y)
			for _, args := range [][2]dyad.Dyad{{x, y}, {loose(x), y}, {x, loose(y)}, {loose(x), loose(y)}} {
				a, b := args[0], args[1]
				what := text(a) + " and " + text(b)
				isRat(t, "sum of "+what, a.Add(b), new(big.Rat).Add(p, q))
				isRat(t, "difference of "+what, a.Sub(b), new(big.Rat).Sub(p, q))
				isRat(t, "product of "+what, a.Mul(b), new(big.Rat).Mul(p, q))
				same(t, "order of "+what, a.Cmp(b), p.Cmp(q))
			}
		}
	}
}

func TestP301Exact(t *testing.T) {
	is(t, "to 0", num(3, 2).Add(num(-3, 2)), whole.Int{}, 0)
	is(t, "carry to a power of two", num(7, -3).Add(num(1, -3)), whole.Of(1), 0)
	is(t, "difference", num(1, 0).Sub(num(1, -2)), whole.Of(3), -2)
	is(t, "product with 0", num(-5, 9).Mul(loose(num(0, 0))), whole.Int{}, 0)
	// Nothing is lost between the greatest and the least exponent.
	far := num(1, dyad.MaxExp).Add(num(1, -dyad.MaxExp))
	is(t, "far sum", far, power(2*dyad.MaxExp).Add(whole.Of(1)), -dyad.MaxExp)
	is(t, "and back", far.Sub(num(1, dyad.MaxExp)), whole.Of(1), -dyad.MaxExp)
	is(t, "far difference", num(1, -dyad.MaxExp).Sub(num(1, dyad.MaxExp)), whole.Of(1).Sub(power(2*dyad.MaxExp)), -dyad.MaxExp)
	is(t, "far product", num(-3, dyad.MaxExp).Mul(num(5, dyad.MaxExp)), whole.Of(-15), 2*dyad.MaxExp)
	is(t, "near product", num(-3, -dyad.MaxExp).Mul(num(5, -dyad.MaxExp)), whole.Of(-15), -2*dyad.MaxExp)
}

// TestP301LongestMan checks arguments with MaxBits bits: their sums and products have more trailing zero bits,
// and their odd representations exponents farther apart, than numbers of package whole can be shifted by.
func TestP301LongestMan(t *testing.T) {
	one := whole.Of(1)
	great := dyad.Dyad{Man: power(api.MaxBits - 1), Exp: dyad.MaxExp}
	top := api.MaxBits - 1 + dyad.MaxExp
	is(t, "made", dyad.Make(great.Man, great.Exp), one, top)
	is(t, "plus a 0 far below", great.Add(dyad.Dyad{Exp: -dyad.MaxExp}), one, top)
	is(t, "minus a 0 far below", great.Sub(dyad.Dyad{Exp: -dyad.MaxExp}), one, top)
	is(t, "plus a number far below", great.Add(num(1, -dyad.MaxExp)), power(top+dyad.MaxExp).Add(one), -dyad.MaxExp)
	is(t, "product", great.Mul(dyad.Dyad{Man: power(1 << 20), Exp: -5}), one, top+1<<20-5)
	is(t, "twice", great.Add(great), one, top+1)
	same(t, "Top", great.Top(), top+1)
	same(t, "order", great.Cmp(num(1, -dyad.MaxExp)), 1)
	below := dyad.Dyad{Man: power(api.MaxBits).Sub(one), Exp: -dyad.MaxExp}
	above := num(1, -dyad.MaxExp+api.MaxBits-1)
	same(t, "order of numbers of the same size", below.Cmp(above), 1)
	same(t, "order of equal numbers", great.Cmp(great), 0)
	is(t, "sum of the longest odd number", below.Add(num(1, -dyad.MaxExp)), one, api.MaxBits-dyad.MaxExp)
}

func TestP301Cmp(t *testing.T) {
	// Each number is less than the next one.
	ordered := []dyad.Dyad{
		num(-1, dyad.MaxExp), num(-1, 5), num(-1, 4), num(-7, 1), num(-13, 0), num(-3, 2), num(-1, -9), num(-1, -dyad.MaxExp),
		num(0, 0), num(1, -dyad.MaxExp), num(7, -4000000), num(1, -9), num(5, 0), num(11, -1), num(7, 0), num(1, 3),
		num(1, 4000000), num(3, 4000000), num(1, dyad.MaxExp),
	}
	for i, a := range ordered {
		for j, b := range ordered {
			want := 0
			if i < j {
				want = -1
			} else if i > j {
				want = 1
			}
			what := text(a) + " and " + text(b)
			same(t, what, a.Cmp(b), want)
			same(t, what+" loose", loose(a).Cmp(loose(b)), want)
		}
	}
	zero := dyad.Dyad{Man: whole.Int{Neg: true}, Exp: 9}
	same(t, "zeros", zero.Cmp(dyad.Dyad{Exp: -9}), 0)
	same(t, "0 and more", zero.Cmp(num(1, -9)), -1)
	same(t, "less and 0", num(-1, -9).Cmp(zero), -1)
}

// calls returns the results of all functions that return numbers.
func calls(a, b dyad.Dyad) []dyad.Dyad {
	out := []dyad.Dyad{dyad.Make(a.Man, a.Exp), a.Not(), a.Add(b), a.Sub(b), a.Mul(b)}
	for _, dir := range []int{api.Down, api.Up} {
		for _, p := range []int{1, 64, 1000} {
			quo, _ := a.Quo(b, p, dir)
			root, _ := a.Sqrt(p, dir)
			out = append(out, a.Round(p, dir), quo, root)
		}
	}
	return out
}

// argumentPairs returns arguments for which functions might be tempted to hand out what they were given.
func argumentPairs() [][2]dyad.Dyad {
	zero, one, many := dyad.Dyad{}, num(1, 0), dyad.Make(long(4, 5), -20)
	return [][2]dyad.Dyad{
		{zero, zero}, {many, zero}, {zero, many}, {many, one}, {one, many}, {many, many.Not()}, {num(25, 4), num(1, -7)},
		{loose(zero), loose(many)}, {loose(many), loose(zero)}, {loose(many), loose(one)},
	}
}

func TestP301ArgumentsAreKept(t *testing.T) {
	for i, pair := range argumentPairs() {
		a, b := clone(pair[0]), clone(pair[1])
		calls(a, b)
		a.Sign()
		a.Cmp(b)
		a.Top()
		same(t, fmt.Sprint("pair ", i, ": first"), equal(a, pair[0]), true)
		same(t, fmt.Sprint("pair ", i, ": second"), equal(b, pair[1]), true)
	}
}

func TestP301ResultsAreNewMemory(t *testing.T) {
	for i, pair := range argumentPairs() {
		a, b := clone(pair[0]), clone(pair[1])
		want := calls(a, b)
		for j, result := range calls(a, b) {
			what := fmt.Sprint("pair ", i, " call ", j)
			checkForm(t, what, result)
			is(t, what, result, want[j].Man, want[j].Exp)
			memory := result.Man.Mag[:cap(result.Man.Mag)]
			for k := range memory {
				memory[k] = 0xdead
			}
			same(t, what+": first argument", equal(a, pair[0]), true)
			same(t, what+": second argument", equal(b, pair[1]), true)
		}
	}
}

// TestP301NoPanic gives arguments for which results are unspecified; every call must end nevertheless.
func TestP301NoPanic(t *testing.T) {
	for _, exp := range []int{math.MinInt, -dyad.MaxExp - 1, dyad.MaxExp + 1, math.MaxInt - 1, math.MaxInt} {
		for _, man := range []int{-7, 0, 2, 5} {
			a := dyad.Dyad{Man: whole.Of(man), Exp: exp}
			for _, b := range []dyad.Dyad{a, num(3, 0), {}, {Man: whole.Of(-4), Exp: math.MinInt}} {
				calls(a, b)
				calls(b, a)
				a.Cmp(b)
				b.Cmp(a)
				a.Top()
			}
		}
	}
}

package ball_test

import (
	"fmt"
	"math/big"
	"slices"
	"testing"

	"compass/ball"
	"compass/dyad"
	"compass/nat"
	"compass/whole"
)

func num(man, exp int) dyad.Dyad {
	return dyad.Make(whole.Of(man), exp)
}

// from returns the ball from lo to hi eighths.
func from(lo, hi int) ball.Ball {
	return ball.Ball{Lo: num(lo, -3), Hi: num(hi, -3)}
}

// power returns 2^n for any n from 0, also where package whole would not shift so far.
func power(n int) whole.Int {
	limbs := make(nat.Nat, n/64+1)
	limbs[n/64] = 1 << (n % 64)
	return whole.Make(false, limbs)
}

// loose returns a in a representation that only arguments have: with a Man that is even or a negative 0,
// and that has limbs equal to 0 at its end.
func loose(a dyad.Dyad) dyad.Dyad {
	man := a.Man.Shl(67)
	return dyad.Dyad{Man: whole.Int{Neg: man.Neg || man.Sign() == 0, Mag: append(man.Mag, 0, 0)}, Exp: a.Exp - 67}
}

func looseBall(a ball.Ball) ball.Ball {
	return ball.Ball{Lo: loose(a.Lo), Hi: loose(a.Hi)}
}

func clone(a dyad.Dyad) dyad.Dyad {
	return dyad.Dyad{Man: whole.Int{Neg: a.Man.Neg, Mag: slices.Clone(a.Man.Mag)}, Exp: a.Exp}
}

func cloneBall(a ball.Ball) ball.Ball {
	return ball.Ball{Lo: clone(a.Lo), Hi: clone(a.Hi)}
}

// equal tells whether a and b are the same in all their parts.
func equal(a, b dyad.Dyad) bool {
	return a.Man.Neg == b.Man.Neg && slices.Equal(a.Man.Mag, b.Man.Mag) && a.Exp == b.Exp
}

func equalBall(a, b ball.Ball) bool {
	return equal(a.Lo, b.Lo) && equal(a.Hi, b.Hi)
}

// is checks that got has exactly these ends.
func is(t *testing.T, what string, got, want ball.Ball) {
	t.Helper()
	if !equalBall(got, want) {
		t.Errorf("%s: got %s, want %s", what, show(got), show(want))
	}
}

// isRat checks that the ends of got are lo rounded down and hi rounded up to p bits, in the form of results.
func isRat(t *testing.T, what string, got ball.Ball, lo, hi *big.Rat, p int) {
	t.Helper()
	checkForm(t, what, got)
	if toRat(got.Lo).Cmp(rounded(lo, p)) != 0 || toRat(got.Hi).Cmp(negative(rounded(negative(hi), p))) != 0 {
		t.Errorf("%s: got %s, want %v to %v rounded to %d bits", what, show(got), lo, hi, p)
	}
}

// checkForm checks that the ends of a are in the form that results have.
func checkForm(t *testing.T, what string, a ball.Ball) {
	t.Helper()
	for _, end := range []dyad.Dyad{a.Lo, a.Hi} {
		mag := end.Man.Mag
		ok := !end.Man.Neg && end.Exp == 0
		if n := len(mag); n > 0 {
			ok = mag[0]&1 == 1 && mag[n-1] != 0
		}
		if !ok {
			t.Errorf("%s: %s is not in the form of a result", what, show(a))
		}
	}
}

// toRat returns a as a rational number. Its exponent must be small.
func toRat(a dyad.Dyad) *big.Rat {
	words := make([]big.Word, len(a.Man.Mag))
	for i, limb := range a.Man.Mag {
		words[i] = big.Word(limb)
	}
	out := new(big.Int).SetBits(words)
	if a.Man.Neg {
		out.Neg(out)
	}
	return scale(new(big.Rat).SetInt(out), a.Exp)
}

// scale returns x times 2^n.
func scale(x *big.Rat, n int) *big.Rat {
	factor := new(big.Rat).SetInt(new(big.Int).Lsh(big.NewInt(1), uint(max(n, -n))))
	if n < 0 {
		factor.Inv(factor)
	}
	return factor.Mul(factor, x)
}

func negative(x *big.Rat) *big.Rat {
	return new(big.Rat).Neg(x)
}

// floor returns x rounded down to an integer.
func floor(x *big.Rat) *big.Int {
	// The denominator is positive, for which Div of math/big rounds down.
	return new(big.Int).Div(x.Num(), x.Denom())
}

// topOf returns the least n such that 2^n is greater than x, which is positive.
func topOf(x *big.Rat) int {
	n := x.Num().BitLen() - x.Denom().BitLen()
	for scale(big.NewRat(1, 1), n).Cmp(x) <= 0 {
		n++
	}
	return n
}

// rounded returns x rounded down to p bits.
func rounded(x *big.Rat, p int) *big.Rat {
	if x.Sign() == 0 {
		return x
	}
	step := topOf(new(big.Rat).Abs(x)) - p
	return scale(new(big.Rat).SetInt(floor(scale(x, -step))), step)
}

func text(a dyad.Dyad) string {
	if n := len(a.Man.Mag); n > 20 {
		return fmt.Sprintf("%d limbs ^ %d", n, a.Exp)
	}
	return fmt.Sprintf("%s ^ %d", a.Man.Text(), a.Exp)
}

func show(a ball.Ball) string {
	return text(a.Lo) + " .. " + text(a.Hi)
}

func same[T comparable](t *testing.T, what string, got, want T) {
	t.Helper()
	if got != want {
		t.Errorf("%s: got %v, want %v", what, got, want)
	}
}

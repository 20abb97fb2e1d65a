package ball_test

import (
	"fmt"
	"math"
	"math/big"
	"slices"
	"testing"

	"compass/api"
	"compass/ball"
	"compass/dyad"
	"compass/whole"
)

// balls returns all balls between some numbers around 0.
func balls() []ball.Ball {
	var out []ball.Ball
	ends := []int{-96, -11, -8, -3, 0, 1, 5, 8, 77}
	for i, lo := range ends {
		for _, hi := range ends[i:] {
			out = append(out, from(lo, hi))
		}
	}
	return out
}

func TestP501At(t *testing.T) {
	for _, man := range []int{-8, -3, 0, 1, 12} {
		a := num(man, -2)
		is(t, text(a), ball.At(a), ball.Ball{Lo: a, Hi: a})
		is(t, text(a)+" loose", ball.At(loose(a)), ball.Ball{Lo: a, Hi: a})
	}
}

func TestP501Between(t *testing.T) {
	numbers := []dyad.Dyad{num(-1, dyad.MaxExp), num(-5, 1), num(-9, 0), num(0, 0), num(1, -dyad.MaxExp), num(3, -1), num(1, 1), num(5, 0)}
	for i, a := range numbers {
		for _, b := range numbers[i:] {
			want := ball.Ball{Lo: a, Hi: b}
			is(t, "in order", ball.Between(a, b), want)
			is(t, "turned", ball.Between(b, a), want)
			is(t, "loose", ball.Between(loose(b), loose(a)), want)
		}
	}
}

func TestP501Sign(t *testing.T) {
	for _, c := range []struct {
		lo, hi, want int
		ok           bool
	}{
		{1, 2, 1, true}, {3, 3, 1, true}, {-2, -1, -1, true}, {-3, -3, -1, true}, {0, 0, 0, true},
		{-1, 1, 0, false}, {0, 1, 0, false}, {-1, 0, 0, false},
	} {
		for _, a := range []ball.Ball{from(c.lo, c.hi), looseBall(from(c.lo, c.hi))} {
			sign, ok := a.Sign()
			same(t, fmt.Sprint(c, " sign"), sign, c.want)
			same(t, fmt.Sprint(c, " ok"), ok, c.ok)
		}
	}
}

func TestP501Has(t *testing.T) {
	for _, a := range balls() {
		for x := -100; x <= 100; x++ {
			lo, hi := toRat(a.Lo), toRat(a.Hi)
			value := big.NewRat(int64(x), 8)
			want := lo.Cmp(value) <= 0 && value.Cmp(hi) <= 0
			same(t, fmt.Sprint(show(a), " has ", x), a.Has(num(x, -3)), want)
			same(t, fmt.Sprint(show(a), " has loose ", x), looseBall(a).Has(loose(num(x, -3))), want)
		}
	}
	wide := ball.Between(num(1, dyad.MaxExp), num(1, -dyad.MaxExp))
	same(t, "wide and 0", wide.Has(dyad.Dyad{}), false)
	same(t, "wide and 1", wide.Has(dyad.Of(1)), true)
	same(t, "wide and more", wide.Has(num(3, dyad.MaxExp-1)), false)
}

func TestP501Not(t *testing.T) {
	is(t, "1 to 3", from(1, 3).Not(), from(-3, -1))
	is(t, "-1 to 3", from(-1, 3).Not(), from(-3, 1))
	is(t, "0 to 3", from(0, 3).Not(), from(-3, 0))
	is(t, "loose", looseBall(from(-5, 0)).Not(), from(0, 5))
}

func TestP501Top(t *testing.T) {
	for _, c := range []struct{ lo, hi, want int }{
		{-72, 24, 4}, {-24, 72, 4}, {0, 0, 0}, {8, 16, 2}, {-64, 0, 4}, {-56, 56, 3}, {1, 1, -2}, {1, 2, -1}, {-1, -1, -2},
		// The Top of 0 is 0, which is greater than that of 1/8.
		{0, 1, 0}, {-1, 0, 0},
	} {
		same(t, fmt.Sprint(c), from(c.lo, c.hi).Top(), c.want)
		same(t, fmt.Sprint(c, " loose"), looseBall(from(c.lo, c.hi)).Top(), c.want)
	}
}

// extremes returns the least and the greatest of some numbers.
func extremes(all ...*big.Rat) (*big.Rat, *big.Rat) {
	slices.SortFunc(all, (*big.Rat).Cmp)
	return all[0], all[len(all)-1]
}

// corners returns the least and the greatest result of an operation on the ends of two balls.
func corners(a, b ball.Ball, op func(x, y *big.Rat) *big.Rat) (*big.Rat, *big.Rat) {
	p, q, r, s := toRat(a.Lo), toRat(a.Hi), toRat(b.Lo), toRat(b.Hi)
	return extremes(op(p, r), op(p, s), op(q, r), op(q, s))
}

func checkPair(t *testing.T, x, y ball.Ball, a, b ball.Ball, p int) {
	t.Helper()
	what := fmt.Sprint(show(a), " and ", show(b), " to ", p)
	add := func(u, v *big.Rat) *big.Rat { return new(big.Rat).Add(u, v) }
	sub := func(u, v *big.Rat) *big.Rat { return new(big.Rat).Sub(u, v) }
	mul := func(u, v *big.Rat) *big.Rat { return new(big.Rat).Mul(u, v) }
	quo := func(u, v *big.Rat) *big.Rat { return new(big.Rat).Quo(u, v) }
	lo, hi := corners(x, y, add)
	isRat(t, what+" sum", a.Add(b, p), lo, hi, p)
	lo, hi = corners(x, y, sub)
	isRat(t, what+" difference", a.Sub(b, p), lo, hi, p)
	lo, hi = corners(x, y, mul)
	isRat(t, what+" product", a.Mul(b, p), lo, hi, p)
	got, ok := a.Quo(b, p)
	if toRat(y.Lo).Sign()*toRat(y.Hi).Sign() <= 0 {
		same(t, what+" quotient", ok, false)
		is(t, what+" quotient", got, ball.Ball{})
		return
	}
	lo, hi = corners(x, y, quo)
	same(t, what+" quotient", ok, true)
	isRat(t, what+" quotient", got, lo, hi, p)
}

// TestP502Pairs compares the operations on all pairs of some balls with the extremes over their ends.
func TestP502Pairs(t *testing.T) {
	for i, x := range balls() {
		for j, y := range balls() {
			p := []int{1, 2, 3, 5, 60}[(i+j)%5]
			checkPair(t, x, y, x, y, p)
			checkPair(t, x, y, looseBall(x), looseBall(y), p)
		}
	}
}

// TestP502LongNumbers takes balls with ends of more bits than the results may have.
func TestP502LongNumbers(t *testing.T) {
	long := dyad.Make(power(200).Sub(whole.Of(77)), -190)
	other := dyad.Make(power(130).Add(whole.Of(1)), -135)
	ends := []dyad.Dyad{long.Not(), other.Not(), {}, other, long}
	for i, a := range ends {
		for _, b := range ends[i:] {
			for j, c := range ends {
				for k, d := range ends[j:] {
					p := []int{1, 53, 64, 65, 128, 129, 331}[(i+j+k)%7]
					x, y := ball.Between(a, b), ball.Between(c, d)
					checkPair(t, x, y, x, y, p)
				}
			}
		}
	}
}

func TestP502Quo(t *testing.T) {
	third, ok := ball.At(dyad.Of(1)).Quo(ball.At(dyad.Of(3)), 2) // the example of the chapter
	same(t, "third", ok, true)
	is(t, "third", third, from(2, 3))
	for _, b := range []ball.Ball{{}, from(0, 1), from(-1, 0), from(-1, 1), looseBall(from(0, 0)), looseBall(from(-3, 0))} {
		for _, a := range []ball.Ball{{}, from(1, 2), from(-1, 2), from(-2, -1)} {
			got, ok := a.Quo(b, 9)
			same(t, show(a)+" by "+show(b), ok, false)
			is(t, show(a)+" by "+show(b), got, ball.Ball{})
		}
	}
}

func TestP502Sqrt(t *testing.T) {
	root := func(a ball.Ball, p int, want ball.Ball) {
		t.Helper()
		for _, x := range []ball.Ball{a, looseBall(a)} {
			got, ok := x.Sqrt(p)
			same(t, "root of "+show(x), ok, true)
			is(t, "root of "+show(x), got, want)
		}
	}
	root(from(32, 72), 9, from(16, 24))
	root(from(-32, 72), 9, from(0, 24))
	root(from(0, 72), 9, from(0, 24))
	root(from(-1, 0), 9, from(0, 0))
	root(from(0, 0), 9, from(0, 0))
	root(from(16, 16), 3, ball.Ball{Lo: num(5, -2), Hi: num(3, -1)})
	root(from(16, 24), 1, from(8, 16))
	for _, a := range []ball.Ball{from(-2, -1), from(-1, -1), looseBall(from(-32, -8)), ball.At(num(-1, -dyad.MaxExp))} {
		got, ok := a.Sqrt(9)
		same(t, "root of "+show(a), ok, false)
		is(t, "root of "+show(a), got, ball.Ball{})
	}
}

// TestP502Roots checks that squares of the ends enclose the numbers closely.
func TestP502Roots(t *testing.T) {
	for n := 1; n < 500; n++ {
		for _, p := range []int{1, 4, 9, 70} {
			got, ok := from(n, n+n%3).Sqrt(p)
			what := fmt.Sprint(n, " to ", p)
			same(t, what, ok, true)
			checkForm(t, what, got)
			lo, hi := toRat(got.Lo), toRat(got.Hi)
			step := func(x *big.Rat, up int) *big.Rat {
				// The numbers of p bits next to x are at most this far away.
				return new(big.Rat).Add(x, scale(big.NewRat(int64(up), 1), topOf(x)-p))
			}
			square := func(x *big.Rat) *big.Rat { return new(big.Rat).Mul(x, x) }
			first, last := big.NewRat(int64(n), 8), big.NewRat(int64(n+n%3), 8)
			same(t, what+" Lo", square(lo).Cmp(first) <= 0 && square(step(lo, 1)).Cmp(first) > 0, true)
			same(t, what+" Hi", square(hi).Cmp(last) >= 0 && square(step(hi, -1)).Cmp(last) < 0, true)
		}
	}
}

// TestP502Bits checks that p is taken as package dyad takes it.
func TestP502Bits(t *testing.T) {
	a, b := from(5, 7), from(3, 11)
	for _, c := range []struct{ p, same int }{{math.MinInt, 1}, {-1, 1}, {0, 1}, {api.MaxP + 1, api.MaxP}, {math.MaxInt, api.MaxP}} {
		what := fmt.Sprint(c.p)
		is(t, what+" sum", a.Add(b, c.p), a.Add(b, c.same))
		is(t, what+" difference", a.Sub(b, c.p), a.Sub(b, c.same))
		is(t, what+" product", a.Mul(b, c.p), a.Mul(b, c.same))
		got, _ := a.Quo(b, c.p)
		want, _ := a.Quo(b, c.same)
		is(t, what+" quotient", got, want)
		got, _ = a.Sqrt(c.p)
		want, _ = a.Sqrt(c.same)
		is(t, what+" root", got, want)
	}
	wide, _ := from(8, 8).Quo(from(24, 24), api.MaxP)
	same(t, "bits of Hi", wide.Hi.Man.Cmp(power(api.MaxP-1)), 1)
}

// TestP502AtLimits takes ends at the limits of Exp and of the length of a Man, where the exact results have
// more bits than any argument.
func TestP502AtLimits(t *testing.T) {
	one := dyad.Of(1)
	great := dyad.Dyad{Man: power(api.MaxBits).Sub(whole.Of(1)), Exp: dyad.MaxExp}
	least := num(1, -dyad.MaxExp)
	top := api.MaxBits + dyad.MaxExp
	above, below := num(1, top), num(7, top-3)
	is(t, "sum", ball.At(great).Add(ball.At(least), 3), ball.Ball{Lo: below, Hi: above})
	is(t, "difference", ball.At(great).Sub(ball.At(least.Not()), 3), ball.Ball{Lo: below, Hi: above})
	is(t, "negative", ball.At(great.Not()).Add(ball.At(least), 3), ball.Ball{Lo: above.Not(), Hi: below.Not()})
	factor := dyad.Make(power(1000).Sub(whole.Of(1)), -1000)
	is(t, "product", ball.At(great).Mul(ball.At(factor), 3), ball.Ball{Lo: below, Hi: above})
	is(t, "negative product", ball.Between(great, one).Mul(ball.At(factor.Not()), 1), ball.Ball{Lo: above.Not(), Hi: num(-1, -1)})
	got, ok := ball.At(least).Quo(ball.At(great), 3)
	same(t, "quotient", ok, true)
	is(t, "quotient", got, ball.Ball{Lo: num(1, -dyad.MaxExp-top), Hi: num(5, -dyad.MaxExp-top-2)})
	root, ok := ball.At(great).Sqrt(3)
	same(t, "root", ok, true)
	is(t, "root", root, ball.Ball{Lo: num(7, top/2-3), Hi: num(1, top/2)})
}

// calls returns the results of all functions that return balls.
func calls(a, b ball.Ball) []ball.Ball {
	out := []ball.Ball{ball.At(a.Lo), ball.Between(a.Lo, a.Hi), ball.Between(a.Hi, b.Lo), a.Not()}
	for _, p := range []int{1, 64, 1000} {
		quo, _ := a.Quo(b, p)
		root, _ := a.Sqrt(p)
		out = append(out, a.Add(b, p), a.Sub(b, p), a.Mul(b, p), quo, root)
	}
	return out
}

func TestP502ResultsAreNewMemory(t *testing.T) {
	for i, x := range balls() {
		for _, y := range []ball.Ball{{}, from(8, 8), from(-9, 16), looseBall(from(3, 7)), from(-9, -7)} {
			what := fmt.Sprint(i, " and ", show(y))
			a, b := cloneBall(x), cloneBall(y)
			want := calls(cloneBall(x), cloneBall(y))
			for j, got := range calls(a, b) {
				checkForm(t, what, got)
				spoil(got.Lo)
				is(t, fmt.Sprint(what, " call ", j), ball.Ball{Hi: got.Hi}, ball.Ball{Hi: want[j].Hi})
				spoil(got.Hi)
			}
			same(t, what+" first argument", equalBall(a, x), true)
			same(t, what+" second argument", equalBall(b, y), true)
		}
	}
}

// spoil overwrites the memory of a number.
func spoil(a dyad.Dyad) {
	memory := a.Man.Mag[:cap(a.Man.Mag)]
	for k := range memory {
		memory[k] = 0xdead
	}
}

// TestP502NoPanic gives balls without numbers and with ends beyond the limits; every call must end nevertheless.
func TestP502NoPanic(t *testing.T) {
	odd := []ball.Ball{from(3, -3), from(0, -1), from(1, 0), from(-1, -2)}
	for _, exp := range []int{math.MinInt, math.MaxInt} {
		odd = append(odd, ball.Ball{Lo: dyad.Dyad{Man: whole.Of(-6), Exp: exp}, Hi: dyad.Dyad{Man: whole.Of(6), Exp: exp}})
	}
	for _, a := range odd {
		for _, b := range odd {
			calls(a, b)
			a.Has(b.Lo)
			a.Sign()
			a.Top()
		}
	}
}

package whole_test

import (
	"fmt"
	"math"
	"math/big"
	"slices"
	"testing"

	"compass/api"
	"compass/nat"
	"compass/whole"
)

func TestP201Of(t *testing.T) {
	exactly(t, "0", whole.Of(0), false)
	exactly(t, "7", whole.Of(7), false, 7)
	exactly(t, "-7", whole.Of(-7), true, 7)
	exactly(t, "greatest", whole.Of(math.MaxInt), false, 1<<63-1)
	exactly(t, "least but one", whole.Of(-math.MaxInt), true, 1<<63-1)
	exactly(t, "least", whole.Of(math.MinInt), true, 1<<63)
}

func TestP201Make(t *testing.T) {
	exactly(t, "0", whole.Make(false, nil), false)
	exactly(t, "negative 0", whole.Make(true, nil), false)
	exactly(t, "negative 0 with limbs", whole.Make(true, nat.Nat{0, 0}), false)
	exactly(t, "positive", whole.Make(false, nat.Nat{0, 5}), false, 0, 5)
	exactly(t, "negative", whole.Make(true, nat.Nat{0, 5}), true, 0, 5)
	exactly(t, "padded", whole.Make(true, nat.Nat{5, 0, 6, 0, 0}), true, 5, 0, 6)
}

func TestP201Sign(t *testing.T) {
	for _, c := range []struct {
		a    whole.Int
		want int
	}{
		{whole.Int{}, 0},
		{whole.Int{Neg: true}, 0},
		{whole.Int{Neg: true, Mag: nat.Nat{0, 0}}, 0},
		{whole.Int{Mag: nat.Nat{0}}, 0},
		{whole.Int{Mag: nat.Nat{1}}, 1},
		{whole.Int{Neg: true, Mag: nat.Nat{1}}, -1},
		{whole.Int{Mag: nat.Nat{0, 1, 0}}, 1},
		{whole.Int{Neg: true, Mag: nat.Nat{0, 1, 0}}, -1},
	} {
		same(t, fmt.Sprint(c.a), c.a.Sign(), c.want)
	}
}

func TestP201Cmp(t *testing.T) {
	// Each number is less than the next one.
	ordered := []whole.Int{
		whole.Make(true, nat.Nat{0, 0, 1}), whole.Make(true, nat.Nat{1, 1}), whole.Make(true, nat.Nat{0, 1}), whole.Of(-2),
		whole.Of(-1), whole.Of(0), whole.Of(1), whole.Of(2), whole.Make(false, nat.Nat{top}),
		whole.Make(false, nat.Nat{0, 1}), whole.Make(false, nat.Nat{1, 1}), whole.Make(false, nat.Nat{0, 0, 1}),
	}
	for i, a := range ordered {
		for j, b := range ordered {
			want := 0
			if i < j {
				want = -1
			} else if i > j {
				want = 1
			}
			what := fmt.Sprint(a, b)
			same(t, what, a.Cmp(b), want)
			same(t, what+" loose", loose(a).Cmp(loose(b)), want)
		}
	}
}

func TestP201Not(t *testing.T) {
	exactly(t, "of 5", whole.Of(5).Not(), true, 5)
	exactly(t, "of -5", whole.Of(-5).Not(), false, 5)
	exactly(t, "of 0", whole.Of(0).Not(), false)
	exactly(t, "of negative 0", whole.Int{Neg: true, Mag: nat.Nat{0}}.Not(), false)
	exactly(t, "of padded", whole.Int{Neg: true, Mag: nat.Nat{3, 4, 0}}.Not(), false, 3, 4)
}

func TestP201Add(t *testing.T) {
	is(t, "nothing", whole.Of(-4).Add(), "-4")
	is(t, "nothing to a loose number", loose(whole.Of(-4)).Add(), "-4")
	is(t, "nothing to negative 0", loose(whole.Of(0)).Add(), "0")
	is(t, "one", whole.Of(-4).Add(whole.Of(9)), "5")
	is(t, "both negative", whole.Of(-4).Add(whole.Of(-9)), "-13")
	is(t, "to 0", whole.Of(-4).Add(whole.Of(4)), "0")
	is(t, "many", whole.Of(1).Add(whole.Of(-2), whole.Of(3), whole.Of(-4), whole.Of(5), whole.Of(-6)), "-3")
	is(t, "negative zeros", loose(whole.Of(0)).Add(loose(whole.Of(0)), loose(whole.Of(0))), "0")
	is(t, "carry", whole.Of(math.MaxInt).Add(whole.Of(math.MaxInt), whole.Of(2)), "18446744073709551616")
	is(t, "carry, negative", whole.Of(math.MinInt).Add(whole.Of(math.MinInt)), "-18446744073709551616")
}

func TestP201Sub(t *testing.T) {
	is(t, "positive", whole.Of(9).Sub(whole.Of(4)), "5")
	is(t, "negative", whole.Of(4).Sub(whole.Of(9)), "-5")
	is(t, "of a negative number", whole.Of(4).Sub(whole.Of(-9)), "13")
	is(t, "equal", whole.Of(-4).Sub(whole.Of(-4)), "0")
	is(t, "of 0", whole.Of(-4).Sub(whole.Of(0)), "-4")
	is(t, "from 0", whole.Of(0).Sub(whole.Of(-4)), "4")
	is(t, "negative zeros", loose(whole.Of(0)).Sub(loose(whole.Of(0))), "0")
	is(t, "borrow", whole.Make(false, nat.Nat{0, 0, 1}).Sub(whole.Of(1)), "340282366920938463463374607431768211455")
}

func TestP201Mul(t *testing.T) {
	is(t, "nothing", whole.Of(-4).Mul(), "-4")
	is(t, "nothing by a loose number", loose(whole.Of(-4)).Mul(), "-4")
	is(t, "nothing by negative 0", loose(whole.Of(0)).Mul(), "0")
	is(t, "one", whole.Of(-4).Mul(whole.Of(9)), "-36")
	is(t, "both negative", whole.Of(-4).Mul(whole.Of(-9)), "36")
	is(t, "by 0", whole.Of(-4).Mul(whole.Of(0)), "0")
	is(t, "0 by", whole.Of(0).Mul(whole.Of(-4)), "0")
	is(t, "by negative 0", whole.Of(4).Mul(loose(whole.Of(0)), whole.Of(5)), "0")
	is(t, "three negative", whole.Of(-2).Mul(whole.Of(-3), whole.Of(-5)), "-30")
	is(t, "four negative", whole.Of(-2).Mul(whole.Of(-3), whole.Of(-5), whole.Of(-7)), "210")
	is(t, "least int", whole.Of(math.MinInt).Mul(whole.Of(math.MinInt)), "85070591730234615865843651857942052864")
}

func TestP201MulMany(t *testing.T) {
	for n := range 60 {
		var l []whole.Int
		want := big.NewInt(-3)
		for i := range n {
			l = append(l, number(n+i, 1+i%7).Add(whole.Of(1)))
			want.Mul(want, toBig(l[i]))
		}
		isBig(t, fmt.Sprint(n, " factors"), whole.Of(-3).Mul(l...), want)
	}
}

// TestP201Pairs compares all operations on two numbers with those of math/big, also for loose arguments.
func TestP201Pairs(t *testing.T) {
	for _, x := range samples() {
		for _, y := range samples() {
			p, q := toBig(x), toBig(y)
			for _, args := range [][2]whole.Int{{x, y}, {loose(x), loose(y)}} {
				a, b := args[0], args[1]
				what := p.String() + " and " + q.String()
				isBig(t, "sum of "+what, a.Add(b), new(big.Int).Add(p, q))
				isBig(t, "difference of "+what, a.Sub(b), new(big.Int).Sub(p, q))
				isBig(t, "product of "+what, a.Mul(b), new(big.Int).Mul(p, q))
				same(t, "order of "+what, a.Cmp(b), p.Cmp(q))
				checkQuo(t, what, a, b)
			}
		}
	}
}

// checkQuo compares a quotient, rounded down and up, with that of math/big.
func checkQuo(t *testing.T, what string, a, b whole.Int) {
	t.Helper()
	down, downOk := a.Quo(b, false)
	up, upOk := a.Quo(b, true)
	p, q := toBig(a), toBig(b)
	same(t, "quotient down of "+what, downOk, q.Sign() != 0)
	same(t, "quotient up of "+what, upOk, q.Sign() != 0)
	if q.Sign() == 0 {
		exactly(t, "quotient down of "+what, down, false)
		exactly(t, "quotient up of "+what, up, false)
		return
	}
	// Quo of math/big rounds towards 0.
	want, rest := new(big.Int).QuoRem(p, q, new(big.Int))
	wantUp := new(big.Int).Set(want)
	switch rest.Sign() * q.Sign() {
	case -1:
		want.Sub(want, big.NewInt(1))
	case 1:
		wantUp.Add(wantUp, big.NewInt(1))
	}
	isBig(t, "quotient down of "+what, down, want)
	isBig(t, "quotient up of "+what, up, wantUp)
}

func TestP201Quo(t *testing.T) {
	for _, c := range []struct {
		a, b     int
		down, up string
	}{
		{-7, 2, "-4", "-3"}, // the example of the chapter
		{7, -2, "-4", "-3"},
		{7, 2, "3", "4"},
		{-7, -2, "3", "4"},
		{-6, 2, "-3", "-3"},
		{6, 2, "3", "3"},
		{1, 5, "0", "1"},
		{-1, 5, "-1", "0"},
		{1, -5, "-1", "0"},
		{-1, -5, "0", "1"},
		{0, -5, "0", "0"},
		{math.MinInt, -1, "9223372036854775808", "9223372036854775808"},
	} {
		what := fmt.Sprint(c.a, " by ", c.b)
		down, downOk := whole.Of(c.a).Quo(whole.Of(c.b), false)
		up, upOk := whole.Of(c.a).Quo(whole.Of(c.b), true)
		is(t, what+" down", down, c.down)
		is(t, what+" up", up, c.up)
		same(t, what+" down", downOk, true)
		same(t, what+" up", upOk, true)
	}
}

func TestP201QuoByZero(t *testing.T) {
	zeros := []whole.Int{{}, {Neg: true}, {Mag: nat.Nat{0}}, {Neg: true, Mag: nat.Nat{0, 0}}}
	for _, zero := range zeros {
		for _, a := range append([]whole.Int{whole.Of(3), whole.Of(-3)}, zeros...) {
			for _, up := range []bool{false, true} {
				got, ok := a.Quo(zero, up)
				same(t, fmt.Sprint(a, zero, up), ok, false)
				exactly(t, fmt.Sprint(a, zero, up), got, false)
			}
		}
	}
}

// TestP201Shifts compares shifts with those of math/big, also for loose arguments.
func TestP201Shifts(t *testing.T) {
	for _, x := range samples() {
		p := toBig(x)
		for _, n := range []int{0, 1, 2, 31, 32, 33, 63, 64, 65, 127, 128, 129, 200, 500, 1600} {
			for _, a := range []whole.Int{x, loose(x)} {
				what := fmt.Sprint(p, " by ", n)
				isBig(t, "up "+what, a.Shl(n), new(big.Int).Lsh(p, uint(n)))
				isBig(t, "down "+what, a.Floor(n), new(big.Int).Rsh(p, uint(n)))
			}
		}
	}
}

func TestP201Floor(t *testing.T) {
	for a := -40; a <= 40; a++ {
		for n := range 8 {
			want := int(math.Floor(float64(a) / float64(int(1)<<n)))
			is(t, fmt.Sprint(a, n), whole.Of(a).Floor(n), fmt.Sprint(want))
		}
	}
}

func TestP201ShiftLimits(t *testing.T) {
	for _, n := range []int{-1, -64, -api.MaxBits, -api.MaxBits - 1, math.MinInt, api.MaxBits + 1, math.MaxInt} {
		for _, a := range []whole.Int{whole.Of(5), whole.Of(-5), whole.Of(0), number(1, 5)} {
			exactly(t, fmt.Sprint("up by ", n), a.Shl(n), false)
			exactly(t, fmt.Sprint("down by ", n), a.Floor(n), false)
		}
	}
	great := whole.Of(-3).Shl(api.MaxBits)
	same(t, "bits of the greatest shift", nat.Bits(great.Mag), api.MaxBits+2)
	same(t, "zero bits of the greatest shift", nat.Low(great.Mag), api.MaxBits)
	is(t, "back", great.Floor(api.MaxBits), "-3")
	is(t, "back, rounded", great.Sub(whole.Of(1)).Floor(api.MaxBits), "-4")
	is(t, "all of a negative number", whole.Of(-5).Floor(api.MaxBits), "-1")
	is(t, "all of a positive number", whole.Of(5).Floor(api.MaxBits), "0")
	// Beyond the limit the result is 0 even where bits would be left, or -1 would be the greatest integer.
	exactly(t, "beyond the limit", great.Floor(api.MaxBits+1), false)
}

func TestP201Text(t *testing.T) {
	same(t, "0", whole.Of(0).Text(), "0")
	same(t, "negative 0", whole.Int{Neg: true, Mag: nat.Nat{0, 0}}.Text(), "0")
	same(t, "positive", whole.Of(120).Text(), "120")
	same(t, "negative", whole.Of(-120).Text(), "-120")
	same(t, "padded", whole.Int{Neg: true, Mag: nat.Nat{7, 0}}.Text(), "-7")
	same(t, "least int", whole.Of(math.MinInt).Text(), "-9223372036854775808")
	for _, a := range samples() {
		same(t, "sample", a.Text(), toBig(a).String())
	}
}

// calls returns the results of all functions that return numbers.
func calls(a, b whole.Int) []whole.Int {
	down, _ := a.Quo(b, false)
	up, _ := a.Quo(b, true)
	return []whole.Int{
		whole.Make(true, a.Mag), a.Not(), a.Add(), a.Add(b), a.Add(a, b, a), a.Sub(b),
		a.Mul(), a.Mul(b), a.Mul(whole.Of(1)), whole.Of(1).Mul(a), a.Mul(b, a, b),
		a.Shl(0), a.Shl(3), a.Floor(0), a.Floor(3), a.Floor(64), down, up,
	}
}

// argumentPairs returns arguments for which functions might be tempted to hand out what they were given.
func argumentPairs() [][2]whole.Int {
	return [][2]whole.Int{
		{whole.Of(0), whole.Of(0)},
		{number(3, 4), whole.Of(0)},
		{whole.Of(0), number(3, 4)},
		{number(3, 4), whole.Of(1)},
		{number(4, 3), whole.Of(-1)},
		{number(5, 6), number(5, 6).Not()},
		{loose(whole.Of(0)), loose(number(7, 3))},
		{loose(number(7, 3)), loose(whole.Of(0))},
		{loose(number(7, 90)), loose(number(8, 60))},
	}
}

func TestP201ArgumentsAreKept(t *testing.T) {
	for i, pair := range argumentPairs() {
		a, b := clone(pair[0]), clone(pair[1])
		l := []whole.Int{a, b}
		calls(a, b)
		a.Sign()
		a.Cmp(b)
		a.Text()
		b.Add(l...)
		b.Mul(l...)
		for j := range l {
			what := fmt.Sprint("pair ", i, " argument ", j)
			exactly(t, what, l[j], pair[j].Neg, pair[j].Mag...)
		}
	}
}

func TestP201ResultsAreNewMemory(t *testing.T) {
	for i, pair := range argumentPairs() {
		a, b := clone(pair[0]), clone(pair[1])
		want := calls(a, b)
		got := calls(a, b)
		for j, result := range got {
			what := fmt.Sprint("pair ", i, " call ", j)
			checkForm(t, what, result)
			exactly(t, what, result, want[j].Neg, want[j].Mag...)
			memory := result.Mag[:cap(result.Mag)]
			for k := range memory {
				memory[k] = 0xdead
			}
			exactly(t, what+": first argument", a, pair[0].Neg, pair[0].Mag...)
			exactly(t, what+": second argument", b, pair[1].Neg, pair[1].Mag...)
		}
	}
}

// TestP201ManyLong checks that sums and products of many numbers are right beyond the length from which on
// products are computed in another way.
func TestP201ManyLong(t *testing.T) {
	var l []whole.Int
	sum, product := big.NewInt(1), big.NewInt(1)
	for i := range 40 {
		l = append(l, number(i, 20+i))
		sum.Add(sum, toBig(l[i]))
		product.Mul(product, toBig(l[i]))
	}
	isBig(t, "sum", whole.Of(1).Add(l...), sum)
	isBig(t, "product", whole.Of(1).Mul(l...), product)
	slices.Reverse(l)
	isBig(t, "product reversed", whole.Of(1).Mul(l...), product)
}

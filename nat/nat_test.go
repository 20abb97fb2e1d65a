package nat_test

import (
	"fmt"
	"math"
	"math/big"
	"slices"
	"testing"

	"compass/api"
	"compass/nat"
)

func TestP101Of(t *testing.T) {
	is(t, "no limbs", nat.Of())
	is(t, "zero limbs", nat.Of(0, 0))
	is(t, "one limb", nat.Of(7), 7)
	is(t, "low limb first, zeros dropped at the end only", nat.Of(0, 5, 0, 9, 0, 0), 0, 5, 0, 9)
}

func TestP101Cmp(t *testing.T) {
	for _, c := range []struct {
		a, b nat.Nat
		want int
	}{
		{nil, nil, 0},
		{nil, nat.Nat{0, 0}, 0},
		{nat.Nat{5}, nat.Nat{5, 0, 0}, 0},
		{nat.Nat{1, 2}, nat.Nat{1, 2}, 0},
		{nil, nat.Nat{1}, -1},
		{nat.Nat{5}, nat.Nat{6}, -1},
		{nat.Nat{top}, nat.Nat{0, 1}, -1},
		{nat.Nat{9, 1}, nat.Nat{0, 2}, -1},
		{nat.Nat{8, 3}, nat.Nat{9, 3}, -1},
		{nat.Nat{1, 0, 0, 0}, nat.Nat{2, 0}, -1},
	} {
		what := fmt.Sprint(c.a, c.b)
		same(t, what, nat.Cmp(c.a, c.b), c.want)
		same(t, what+" swapped", nat.Cmp(c.b, c.a), -c.want)
	}
}

func TestP101Add(t *testing.T) {
	is(t, "nothing", nat.Add())
	is(t, "nils", nat.Add(nil, nil))
	is(t, "one", nat.Add(nat.Nat{5, 0}), 5)
	is(t, "example of the chapter", nat.Add(nat.Of(top), nat.Of(1)), 0, 1)
	is(t, "carry through all limbs", nat.Add(nat.Of(1), nat.Of(top, top, top)), 0, 0, 0, 1)
	is(t, "padded", nat.Add(nat.Nat{1, 0, 0, 0}, nat.Nat{2, 0}), 3)
	is(t, "carries of many addends", nat.Add(slices.Repeat([]nat.Nat{{top}}, 1000)...), top-999, 999)
}

func TestP101Sub(t *testing.T) {
	sub := func(what string, a, b nat.Nat, ok bool, want ...uint64) {
		t.Helper()
		got, gotOk := nat.Sub(a, b)
		same(t, what, gotOk, ok)
		is(t, what, got, want...)
	}
	sub("to 0", nat.Nat{3, 4}, nat.Nat{3, 4, 0}, true)
	sub("0 from 0", nil, nil, true)
	sub("nothing", nat.Nat{3, 4, 0}, nat.Nat{0, 0}, true, 3, 4)
	sub("borrow through all limbs", nat.Nat{0, 0, 0, 1}, nat.Nat{1}, true, top, top, top)
	sub("too great", nat.Nat{4}, nat.Nat{5}, false)
	sub("too great in the top limb", nat.Nat{9, 1}, nat.Nat{0, 2}, false)
	sub("from 0", nil, nat.Nat{1}, false)
	sub("padded", nat.Nat{5}, nat.Nat{2, 0, 0}, true, 3)
}

func TestP101Sums(t *testing.T) {
	for i := range 200 {
		a, b, c := number(i, i%9), number(i+1000, i%7), number(i+2000, i%5)
		x, y, z := toBig(a), toBig(b), toBig(c)
		sum := new(big.Int).Add(x, y)
		isBig(t, "sum of two", nat.Add(a, b), sum)
		isBig(t, "sum of three", nat.Add(a, b, c), new(big.Int).Add(sum, z))
		same(t, "Cmp", nat.Cmp(a, b), x.Cmp(y))
		got, ok := nat.Sub(a, b)
		same(t, "Sub", ok, x.Cmp(y) >= 0)
		if ok {
			isBig(t, "difference", got, new(big.Int).Sub(x, y))
		}
	}
}

func TestP101DivMod(t *testing.T) {
	div := func(what string, a, b, quotient, rest nat.Nat, ok bool) {
		t.Helper()
		q, r, gotOk := nat.DivMod(a, b)
		same(t, what, gotOk, ok)
		is(t, what+": quotient", q, quotient...)
		is(t, what+": rest", r, rest...)
	}
	div("small", nat.Nat{17}, nat.Nat{5}, nat.Nat{3}, nat.Nat{2}, true)
	div("less", nat.Nat{4}, nat.Nat{5}, nil, nat.Nat{4}, true)
	div("equal", nat.Nat{4, 7}, nat.Nat{4, 7, 0}, nat.Nat{1}, nil, true)
	div("zero", nil, nat.Nat{3}, nil, nil, true)
	div("by 1", nat.Nat{3, 8, 0}, nat.Nat{1}, nat.Nat{3, 8}, nil, true)
	div("by 0", nat.Nat{5}, nil, nil, nil, false)
	div("by padded 0", nat.Nat{5}, nat.Nat{0, 0}, nil, nil, false)
	div("0 by 0", nil, nil, nil, nil, false)
	div("by a padded limb", nat.Nat{7, 1, 0}, nat.Nat{2, 0, 0}, nat.Nat{1<<63 + 3}, nat.Nat{1}, true)
	div("by a power of 2^64", nat.Nat{7, 8, 9}, nat.Nat{0, 1}, nat.Nat{8, 9}, nat.Nat{7}, true)
}

// checkDivision checks the quotient and the rest of a and b, and of neighbours of multiples of b.
func checkDivision(t *testing.T, a, b nat.Nat) {
	t.Helper()
	product := nat.Mul(40, a, b)
	below, _ := nat.Sub(product, nat.Of(1))
	for _, x := range []nat.Nat{a, product, below, nat.Add(product, b)} {
		q, r, ok := nat.DivMod(x, b)
		same(t, "DivMod", ok, len(b) > 0)
		if ok {
			quotient, rest := new(big.Int).QuoRem(toBig(x), toBig(b), new(big.Int))
			isBig(t, "quotient", q, quotient)
			isBig(t, "rest", r, rest)
		}
	}
}

func TestP101DivModSmall(t *testing.T) {
	for i := range 2000 {
		checkDivision(t, number(i, i%12), number(i+10000, i%7))
	}
}

func TestP101DivModGreat(t *testing.T) {
	for i, sizes := range [][2]int{
		{700, 1}, {700, 2}, {700, 100}, {700, 159}, {700, 160}, {700, 161}, {400, 399}, {400, 220},
		{321, 160}, {640, 320}, {641, 320}, {1000, 333}, {1500, 170}, {1300, 801}, {1, 900}, {900, 900},
	} {
		for j := range 4 {
			checkDivision(t, number(i+100*j, sizes[0]), number(i+100*j+50, sizes[1]))
		}
	}
}

// TestP101DivModGuess divides numbers for which a quotient that is guessed from the top limbs is too great.
func TestP101DivModGuess(t *testing.T) {
	for _, n := range []int{2, 3, 160, 330} {
		ones := slices.Repeat(nat.Nat{top}, n)
		half := append(make(nat.Nat, n-1), 1<<63)
		halfAndOne := nat.Add(half, nat.Of(1))
		halfAndOnes := nat.Add(half, ones[:n-1])
		for _, b := range []nat.Nat{ones, half, halfAndOne, halfAndOnes} {
			for _, a := range []nat.Nat{ones, half, halfAndOne, halfAndOnes} {
				checkDivision(t, append(slices.Clone(a), a...), b)
				checkDivision(t, append(make(nat.Nat, n), a...), b)
			}
		}
	}
}

func TestP101Shifts(t *testing.T) {
	const most = api.MaxBits
	shift := func(what string, a nat.Nat, n int, want ...uint64) {
		t.Helper()
		is(t, what+": Shl", nat.Shl(a, n), want...)
		is(t, what+": Shr", nat.Shr(a, -n), want...)
	}
	shift("by 0", nat.Nat{3, 4, 0}, 0, 3, 4)
	shift("0", nil, 100)
	shift("padded 0", nat.Nat{0, 0}, 3)
	shift("up by a bit", nat.Nat{1<<63 + 1}, 1, 2, 1)
	shift("up by a limb", nat.Nat{3}, 64, 0, 3)
	shift("up by more", nat.Nat{3, 1 << 62}, 65, 0, 6, 1<<63)
	shift("up padded", nat.Nat{3, 0, 0}, 2, 12)
	shift("down by a bit", nat.Nat{5, 3}, -1, 1<<63+2, 1)
	shift("down by a limb", nat.Nat{5, 3}, -64, 3)
	shift("down by more", nat.Nat{5, 7, 0, 6}, -65, 3, 0, 3)
	shift("down to 0", nat.Nat{5, 3}, -66)
	shift("down beyond all limbs", nat.Nat{5, 3}, -1000)
	shift("up by too much", nat.Nat{3}, most+1)
	shift("up by the greatest int", nat.Nat{3}, math.MaxInt)
	shift("down by the greatest int", nat.Nat{3}, -math.MaxInt)
	is(t, "Shl by the least int", nat.Shl(nat.Of(3), math.MinInt))
	is(t, "Shr by the least int", nat.Shr(nat.Of(3), math.MinInt))
	great := nat.Shl(nat.Of(1), most)
	same(t, "bits of the greatest shift up", nat.Bits(great), most+1)
	is(t, "the greatest shift down", nat.Shr(great, most), 1)
	greater := nat.Shl(great, 2)
	shift("down by just enough", greater, -most, 4)
	shift("down by too much, though bits are left", greater, -most-1)
}

func TestP101ShiftLaws(t *testing.T) {
	for i := range 300 {
		a, n := number(i, i%6), i*7%200
		isBig(t, "Shl", nat.Shl(a, n), new(big.Int).Lsh(toBig(a), uint(n)))
		isBig(t, "Shr", nat.Shr(a, n), new(big.Int).Rsh(toBig(a), uint(n)))
	}
}

func TestP101BitsLow(t *testing.T) {
	for _, c := range []struct {
		a         nat.Nat
		bits, low int
	}{
		{nil, 0, 0},
		{nat.Nat{0, 0}, 0, 0},
		{nat.Nat{1}, 1, 0},
		{nat.Nat{12}, 4, 2},
		{nat.Nat{255, 0}, 8, 0},
		{nat.Nat{top}, 64, 0},
		{nat.Nat{0, 1}, 65, 64},
		{nat.Nat{0, 8, 0}, 68, 67},
		{nat.Nat{1 << 63, 1 << 63}, 128, 63},
	} {
		same(t, fmt.Sprint("bits of ", c.a), nat.Bits(c.a), c.bits)
		same(t, fmt.Sprint("low of ", c.a), nat.Low(c.a), c.low)
	}
}

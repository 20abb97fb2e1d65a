package nat_test

import (
	"fmt"
	"math"
	"math/big"
	"slices"
	"testing"

	"compass/nat"
)

var cuts = []int{math.MinInt, -1, 0, 1, 2, 3, 4, 5, 8, 17, 40, 1000, math.MaxInt}

func TestP102Mul(t *testing.T) {
	for _, cut := range cuts {
		what := fmt.Sprint("cut ", cut)
		is(t, what+": 0 by 0", nat.Mul(cut, nil, nil))
		is(t, what+": by 0", nat.Mul(cut, nat.Nat{1, 2, 3}, nat.Nat{0, 0}))
		is(t, what+": 0 by", nat.Mul(cut, nil, nat.Nat{1, 2, 3}))
		is(t, what+": small", nat.Mul(cut, nat.Nat{6}, nat.Nat{7}), 42)
		is(t, what+": padded", nat.Mul(cut, nat.Nat{6, 0, 0, 0}, nat.Nat{7, 0, 0}), 42)
		is(t, what+": greatest limbs", nat.Mul(cut, nat.Nat{top}, nat.Nat{top}), 1, top-1)
		is(t, what+": two limbs", nat.Mul(cut, nat.Nat{top, top}, nat.Nat{top, top}), 1, 0, top-1, top)
		is(t, what+": by a power", nat.Mul(cut, nat.Nat{0, 0, 1}, nat.Nat{5, 6}), 0, 0, 5, 6)
	}
}

// TestP102Cut checks that products are right, and so the same, for every cut.
func TestP102Cut(t *testing.T) {
	for i := range 150 {
		a, b := number(i, i*5%67), number(i+500, i*3%41)
		want := new(big.Int).Mul(toBig(a), toBig(b))
		for _, cut := range cuts {
			isBig(t, "product", nat.Mul(cut, a, b), want)
			isBig(t, "product of padded numbers", nat.Mul(cut, padded(b, 3), padded(a, 1)), want)
		}
	}
}

func TestP102MulOnes(t *testing.T) {
	for n := 1; n < 70; n++ {
		a, b := slices.Repeat(nat.Nat{top}, n), slices.Repeat(nat.Nat{top}, n/2+1)
		for _, cut := range cuts {
			isBig(t, "square", nat.Mul(cut, a, a), new(big.Int).Mul(toBig(a), toBig(a)))
			isBig(t, "product", nat.Mul(cut, a, b), new(big.Int).Mul(toBig(a), toBig(b)))
		}
	}
}

func TestP102MulGreat(t *testing.T) {
	for i, sizes := range [][2]int{{1000, 1000}, {1001, 517}, {2000, 45}, {3000, 1}} {
		a, b := number(i, sizes[0]), number(i+50, sizes[1])
		want := new(big.Int).Mul(toBig(a), toBig(b))
		for _, cut := range []int{2, 30, 600, math.MaxInt} {
			isBig(t, "product", nat.Mul(cut, a, b), want)
		}
	}
}

func TestP102Sqrt(t *testing.T) {
	root := func(what string, a, want, rest nat.Nat) {
		t.Helper()
		r, x := nat.Sqrt(a)
		is(t, what+": root", r, want...)
		is(t, what+": rest", x, rest...)
	}
	root("0", nil, nil, nil)
	root("padded 0", nat.Nat{0, 0}, nil, nil)
	root("1", nat.Nat{1}, nat.Nat{1}, nil)
	root("2", nat.Nat{2}, nat.Nat{1}, nat.Nat{1})
	root("3", nat.Nat{3}, nat.Nat{1}, nat.Nat{2})
	root("padded 4", nat.Nat{4, 0}, nat.Nat{2}, nil)
	root("example of the chapter", nat.Nat{17}, nat.Nat{4}, nat.Nat{1})
	root("2^64 - 1", nat.Nat{top}, nat.Nat{1<<32 - 1}, nat.Nat{1<<33 - 2})
	root("2^64", nat.Nat{0, 1}, nat.Nat{1 << 32}, nil)
	root("2^128", nat.Nat{0, 0, 1}, nat.Nat{0, 1}, nil)
	root("2^128 - 1", nat.Nat{top, top}, nat.Nat{top}, nat.Nat{top - 1, 1})
}

func checkRoot(t *testing.T, a nat.Nat) {
	t.Helper()
	root, rest := nat.Sqrt(a)
	want := new(big.Int).Sqrt(toBig(a))
	isBig(t, "root", root, want)
	isBig(t, "rest", rest, new(big.Int).Sub(toBig(a), new(big.Int).Mul(want, want)))
}

func TestP102SqrtSmall(t *testing.T) {
	for i := range uint64(3000) {
		checkRoot(t, nat.Of(i))
		checkRoot(t, nat.Of(top-i))
		checkRoot(t, nat.Of(i, 1))
	}
}

// TestP102SqrtSquares takes roots of squares and of their neighbours, for all sizes: there a root is most easily off by 1.
func TestP102SqrtSquares(t *testing.T) {
	one := nat.Of(1)
	for n := 1; n < 400; n++ {
		for _, r := range []nat.Nat{nat.Shl(one, n), nat.Add(nat.Shl(one, n), one), number(n, 1+n/64)} {
			square := nat.Mul(40, r, r)
			below, _ := nat.Sub(square, one)
			for _, a := range []nat.Nat{r, below, square, nat.Add(square, r), nat.Add(square, r, r), nat.Add(square, r, r, one)} {
				checkRoot(t, a)
			}
		}
	}
}

func TestP102SqrtGreat(t *testing.T) {
	for i, limbs := range []int{99, 100, 101, 512, 1023, 2048} {
		a := number(i, limbs)
		checkRoot(t, a)
		checkRoot(t, nat.Mul(40, a, a))
		checkRoot(t, slices.Repeat(nat.Nat{top}, limbs))
	}
}

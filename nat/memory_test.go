package nat_test

import (
	"fmt"
	"slices"
	"testing"

	"compass/nat"
)

// calls returns the results of all functions that return numbers.
func calls(a, b nat.Nat) [][]nat.Nat {
	difference, _ := nat.Sub(a, b)
	quotient, rest, _ := nat.DivMod(a, b)
	root, left := nat.Sqrt(a)
	return [][]nat.Nat{
		{nat.Of(a...)}, {nat.Add(a)}, {nat.Add(a, b)}, {nat.Add(nil, a, nil)}, {difference}, {quotient, rest}, {root, left},
		{nat.Mul(2, a, b)}, {nat.Mul(100, a, b)}, {nat.Mul(100, a, nat.Nat{1})},
		{nat.Shl(a, 0)}, {nat.Shl(a, 64)}, {nat.Shl(a, -64)}, {nat.Shr(a, 0)}, {nat.Shr(a, 64)}, {nat.Shr(a, -3)},
	}
}

// scribble overwrites all memory that a reaches.
func scribble(a nat.Nat) {
	a = a[:cap(a)]
	for i := range a {
		a[i] = 0xdead
	}
}

// pairs returns arguments for which functions might be tempted to hand out what they were given.
func pairs() [][2]nat.Nat {
	return [][2]nat.Nat{
		{nil, nil},
		{{5, 6, 7}, nil},
		{{5, 6, 7}, {0, 0}},
		{{5, 6, 7, 0}, {1}},
		{{5, 6, 7}, {5, 6, 7, 0}},
		{{5}, {6, 7, 0}},
		{{1, 2, 3, 4}, {3, 1 << 63}},
		{number(1, 700), number(2, 300)},
		{number(3, 300), number(4, 700)},
	}
}

func TestP101ArgumentsAreKept(t *testing.T) {
	for i, pair := range pairs() {
		a, b := slices.Clone(pair[0]), slices.Clone(pair[1])
		calls(a, b)
		nat.Cmp(a, b)
		nat.Bits(a)
		nat.Low(a)
		nat.Text(a)
		is(t, fmt.Sprint("first of pair ", i), a, pair[0]...)
		is(t, fmt.Sprint("second of pair ", i), b, pair[1]...)
	}
}

func TestP101ResultsAreNewMemory(t *testing.T) {
	for i, pair := range pairs() {
		a, b := slices.Clone(pair[0]), slices.Clone(pair[1])
		want := calls(a, b)
		for j, results := range calls(a, b) {
			for k, result := range results {
				what := fmt.Sprint("pair ", i, " call ", j, " result ", k)
				scribble(result)
				is(t, what+": first argument", a, pair[0]...)
				is(t, what+": second argument", b, pair[1]...)
				for m := k + 1; m < len(results); m++ {
					is(t, what+": later result", results[m], want[j][m]...)
				}
			}
		}
	}
}

// TestP101ZerosAtTheEnd checks that limbs equal to 0 at the end of arguments have no significance, and that no result has any.
func TestP101ZerosAtTheEnd(t *testing.T) {
	for i, pair := range pairs() {
		want := calls(pair[0], pair[1])
		for j, results := range calls(padded(pair[0], 2), padded(pair[1], 5)) {
			for k, result := range results {
				what := fmt.Sprint("pair ", i, " call ", j, " result ", k)
				is(t, what, result, want[j][k]...)
				if len(result) > 0 && result[len(result)-1] == 0 {
					t.Errorf("%s ends with a limb 0", what)
				}
			}
		}
	}
}

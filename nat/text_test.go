package nat_test

import (
	"math/big"
	"strings"
	"testing"

	"compass/nat"
)

// powerOfTen returns 10^n.
func powerOfTen(n int) nat.Nat {
	out, _ := nat.Parse("1" + strings.Repeat("0", n))
	return out
}

func TestP103Text(t *testing.T) {
	same(t, "0", nat.Text(nil), "0")
	same(t, "padded 0", nat.Text(nat.Nat{0, 0}), "0")
	same(t, "small", nat.Text(nat.Of(10)), "10")
	same(t, "padded", nat.Text(nat.Nat{907, 0, 0}), "907")
	same(t, "greatest limb", nat.Text(nat.Of(top)), "18446744073709551615")
	same(t, "2^64", nat.Text(nat.Of(0, 1)), "18446744073709551616")
	same(t, "10^19 - 1", nat.Text(nat.Of(9_999_999_999_999_999_999)), "9999999999999999999")
	same(t, "10^19", nat.Text(nat.Of(10_000_000_000_000_000_000)), "10000000000000000000")
}

func TestP103TextZeros(t *testing.T) {
	one := nat.Of(1)
	for _, n := range []int{1, 18, 19, 20, 37, 38, 39, 75, 76, 77, 607, 608, 609, 1216, 5000} {
		power := powerOfTen(n)
		below, _ := nat.Sub(power, one)
		same(t, "power of ten", nat.Text(power), "1"+strings.Repeat("0", n))
		same(t, "above it", nat.Text(nat.Add(power, one)), "1"+strings.Repeat("0", n-1)+"1")
		same(t, "below it", nat.Text(below), strings.Repeat("9", n))
	}
}

func TestP103TextLaws(t *testing.T) {
	for i := range 150 {
		a := number(i, i)
		text := nat.Text(a)
		same(t, "text", text, toBig(a).String())
		same(t, "text of a padded number", nat.Text(padded(a, 2)), text)
		back, ok := nat.Parse(text)
		same(t, "Parse of Text", ok, true)
		is(t, "Parse of Text", back, a...)
	}
}

func TestP103TextGreat(t *testing.T) {
	for i, limbs := range []int{500, 1000, 2500} {
		a := number(i, limbs)
		same(t, "text", nat.Text(a), toBig(a).String())
	}
}

func TestP103Parse(t *testing.T) {
	for s, want := range map[string]nat.Nat{
		"0":                    nil,
		"000":                  nil,
		"7":                    {7},
		"00012":                {12},
		"9999999999999999999":  {9_999_999_999_999_999_999},
		"10000000000000000000": {10_000_000_000_000_000_000},
		"18446744073709551615": {top},
		"18446744073709551616": {0, 1},
		"18446744073709551617": {1, 1},
		"340282366920938463463374607431768211456": {0, 0, 1},
		strings.Repeat("0", 50) + "5":             {5},
		strings.Repeat("0", 20000):                nil,
		strings.Repeat("0", 19999) + "3":          {3},
	} {
		got, ok := nat.Parse(s)
		same(t, s, ok, true)
		is(t, s, got, want...)
	}
}

func TestP103ParseLong(t *testing.T) {
	long := strings.Repeat("9876543210", 2000)
	want, _ := new(big.Int).SetString(long, 10)
	got, ok := nat.Parse(long)
	same(t, "20,000 digits", ok, true)
	isBig(t, "20,000 digits", got, want)
}

func TestP103ParseInvalid(t *testing.T) {
	valid := strings.Repeat("1", 40)
	for _, s := range []string{
		"", " ", "-1", "+1", "-0", "1 ", " 1", "1a", "a", "0x1", "1_000", "1.0", "1e3", "\x00", "1\n", "/", ":", "１", "٣", "\xff",
		valid + "/", ":" + valid, valid + "x" + valid,
		strings.Repeat("0", 20001), strings.Repeat("1", 20001), strings.Repeat("7", 100000),
	} {
		got, ok := nat.Parse(s)
		same(t, s, ok, false)
		is(t, s, got)
	}
}

package dyad

import (
	"compass/api"
	"compass/nat"
	"compass/whole"
)

// Round returns the greatest number not greater than a whose Man has at most p bits if dir is negative,
// and otherwise the least number not less than a with such a Man.
func (a Dyad) Round(p, dir int) Dyad {
	cut := nat.Bits(a.Man.Mag) - clamp(p)
	if cut <= 0 {
		return Make(a.Man, a.Exp)
	}
	exact := nat.Low(a.Man.Mag) >= cut
	return direct(shorten(a.Man, cut), a.Exp+cut, exact, dir)
}

// Quo returns the quotient of a and b rounded as by Round, and true, or 0 and false if b is 0.
func (a Dyad) Quo(b Dyad, p, dir int) (Dyad, bool) {
	p = clamp(p)
	// With these lengths the quotient is at least 2^(p-1): there the numbers of p bits are integers, so that
	// rounding to an integer first does no harm.
	shift := p + nat.Bits(b.Man.Mag) - nat.Bits(a.Man.Mag)
	man, ok := lengthen(a.Man, shift).Quo(lengthen(b.Man, -shift), dir >= 0)
	return Make(man, a.Exp-b.Exp-shift).Round(p, dir), ok
}

// Sqrt returns the square root of a rounded as by Round, and true, or 0 and false if a is negative.
func (a Dyad) Sqrt(p, dir int) (Dyad, bool) {
	if a.Sign() < 0 {
		return Dyad{}, false
	}
	p = clamp(p)
	// A number of 2p - 1 or 2p bits has a root of p bits; one of the two lengths leaves an even exponent.
	shift := 2*p - nat.Bits(a.Man.Mag)
	shift -= (a.Exp - shift) & 1
	root, rest := nat.Sqrt(nat.Shl(a.Man.Mag, shift))
	exact := len(rest) == 0 && nat.Low(a.Man.Mag) >= -shift
	return direct(whole.Make(false, root), (a.Exp-shift)/2, exact, dir), true
}

// clamp returns the number of bits that p stands for.
func clamp(p int) int {
	return min(max(p, 1), api.MaxP)
}

// direct returns the number that was rounded down to man times 2^exp, rounded by dir instead.
func direct(man whole.Int, exp int, exact bool, dir int) Dyad {
	switch {
	case dir >= 0:
		if !exact {
			man = man.Add(whole.Of(1))
		}
		fallthrough
	default:
		return Make(man, exp)
	}
}

// lengthen returns a times 2^n, or a if n is negative. A dividend may have to become longer than a divisor
// of MaxBits bits, which takes more than one shift.
func lengthen(a whole.Int, n int) whole.Int {
	for ; n > api.MaxBits; n -= api.MaxBits {
		a = a.Shl(api.MaxBits)
	}
	return a.Shl(max(n, 0))
}

// shorten returns a divided by 2^n and rounded down. Exact sums and products may have more bits than one
// shift can take away.
func shorten(a whole.Int, n int) whole.Int {
	for ; n > api.MaxBits; n -= api.MaxBits {
		a = a.Floor(api.MaxBits)
	}
	return a.Floor(n)
}

package nat

import (
	"bytes"
	"math/bits"
)

const (
	maxDigits   = 20000                      // the longest text that Parse accepts
	chunkDigits = 19                         // as many digits as always fit in a limb
	chunk       = 10_000_000_000_000_000_000 // 10^chunkDigits
	textCut     = 30                         // limbs below which digits are written one chunk after the other
)

// Text returns the decimal digits of a.
func Text(a Nat) string {
	powers := chunkPowers(a)
	digits := make([]byte, chunkDigits<<len(powers))
	writeDigits(digits, a, powers)
	digits = bytes.TrimLeft(digits, "0")
	if len(digits) == 0 {
		return "0"
	}
	return string(digits)
}

// chunkPowers returns chunk and its repeated squares, as long as they are not greater than a.
func chunkPowers(a Nat) []Nat {
	var powers []Nat
	size := Bits(a)
	for power := Of(chunk); Cmp(power, a) <= 0; power = Mul(innerCut, power, power) {
		powers = append(powers, power)
		if 2*Bits(power)-1 > size {
			break // the next square would be greater than a, and is not worth its time
		}
	}
	return powers
}

// writeDigits fills digits with those of a, with leading zeros. There are as many of them
// as the square of the last power has zeros, or chunkDigits without powers.
func writeDigits(digits []byte, a Nat, powers []Nat) {
	last := len(powers) - 1
	if last < 0 || len(a) < textCut {
		writeChunks(digits, Of(a...))
		return
	}
	high, low, _ := DivMod(a, powers[last])
	half := len(digits) / 2
	writeDigits(digits[:half], high, powers[:last])
	writeDigits(digits[half:], low, powers[:last])
}

// writeChunks fills digits from the end. It uses up a.
func writeChunks(digits []byte, a Nat) {
	for end := len(digits); end > 0; end -= chunkDigits {
		rest := divideByLimb(a, chunk)
		a = trim(a)
		for i := end - 1; i >= end-chunkDigits; i-- {
			digits[i] = '0' + byte(rest%10)
			rest /= 10
		}
	}
}

// Parse returns the number with these decimal digits and true, or 0 and false if s is not a number
// or has more than 20,000 bytes.
func Parse(s string) (Nat, bool) {
	if len(s) == 0 || len(s) > maxDigits {
		return nil, false
	}
	var out Nat
	for len(s) > 0 {
		// Only the first piece may be shorter, since each piece moves the ones before it by a whole chunk.
		size := (len(s)-1)%chunkDigits + 1
		limb, ok := parseLimb(s[:size])
		if !ok {
			return nil, false
		}
		out = appendChunk(out, limb)
		s = s[size:]
	}
	return out, true
}

// parseLimb returns the number with at most chunkDigits digits.
func parseLimb(s string) (uint64, bool) {
	out := uint64(0)
	for i := range len(s) {
		if s[i] < '0' || s[i] > '9' {
			return 0, false
		}
		out = 10*out + uint64(s[i]-'0')
	}
	return out, true
}

// appendChunk returns a times chunk plus limb. It uses up a.
func appendChunk(a Nat, limb uint64) Nat {
	carry := limb
	for i := range a {
		high, low := bits.Mul64(a[i], chunk)
		low, c := bits.Add64(low, carry, 0)
		a[i] = low
		carry = high + c
	}
	if carry > 0 {
		a = append(a, carry)
	}
	return a
}

// Package scaled is layer 1: see shared/doc/01-scaled.md.
package scaled

import (
	"math/bits"
)

// Most is the greatest number, and 0 less it the least.
const Most = 1 << 60

// Clamp: the nearest number that there is.
func Clamp(a int) int { return min(max(a, -Most), Most) }

// Add: a and b together.
func Add(a, b int) int {
	// Two clamped numbers together are at most 2^61: no wrap-round.
	return Clamp(Clamp(a) + Clamp(b))
}

// Neg: 0 less a.
func Neg(a int) int { return -Clamp(a) }

// Sub: a less b.
func Sub(a, b int) int { return Clamp(Clamp(a) - Clamp(b)) }

// Sum: of any numbers, from the left on.
func Sum(list ...int) int {
	total := 0
	for _, a := range list {
		total = Add(total, a)
	}
	return total
}

// Mul: a times b.
func Mul(a, b int) int {
	n, _ := MulDiv(a, b, 1)
	return n
}

// Div: a by b, rounded down; false: b is 0.
func Div(a, b int) (int, bool) {
	n, _, ok := divide(a, b)
	return n, ok
}

// Mod: what Div leaves: of b's sign, or 0; false: b is 0.
func Mod(a, b int) (int, bool) {
	_, rest, ok := divide(a, b)
	return rest, ok
}

// divide: Div's number, and what it leaves. Both come of one division, as b times Div's number may itself pass Most.
func divide(a, b int) (int, int, bool) {
	if b == 0 {
		return 0, 0, false
	}
	a, b = Clamp(a), Clamp(b)
	n, rest := a/b, a%b
	if rest != 0 && (rest < 0) != (b < 0) {
		// The language rounds towards 0.
		n, rest = n-1, rest+b
	}
	return n, rest, true
}

// MulDiv: a times b by c, rounded down; false: c is 0.
func MulDiv(a, b, c int) (int, bool) {
	if c == 0 {
		return 0, false
	}
	a, b, c = Clamp(a), Clamp(b), Clamp(c)
	below := ((a < 0) != (b < 0)) != (c < 0)
	high, low := bits.Mul64(size(a), size(b))
	if high >= size(c) {
		// The quotient has more than 64 bits, and bits.Div64 would panic.
		return limit(below), true
	}
	quotient, rest := bits.Div64(high, low, size(c))
	n := int(min(quotient, Most))
	if below && rest != 0 {
		n++
	}
	if below {
		n = -n
	}
	return Clamp(n), true
}

// size: how far a clamped number is from 0.
func size(a int) uint64 { return uint64(max(a, -a)) }

// limit: the number that stands for all that would pass it.
func limit(below bool) int {
	if below {
		return -Most
	}
	return Most
}

// Gcd: the greatest number that divides both; 0 of two noughts.
func Gcd(a, b int) int {
	x, y := size(Clamp(a)), size(Clamp(b))
	for y != 0 {
		x, y = y, x%y
	}
	return int(x)
}

// Lowest: a by b in lowest terms, the second above 0; 0 and 1, if b is 0.
func Lowest(a, b int) (int, int) {
	if b == 0 {
		return 0, 1
	}
	a, b = Clamp(a), Clamp(b)
	divisor := Gcd(a, b)
	if b < 0 {
		divisor = -divisor
	}
	return a / divisor, b / divisor
}

// Less: is a by b less than c by d? (b and d above 0.)
func Less(a, b, c, d int) bool {
	leftHigh, leftLow := product(Clamp(a), Clamp(d))
	rightHigh, rightLow := product(Clamp(c), Clamp(b))
	return leftHigh < rightHigh || leftHigh == rightHigh && leftLow < rightLow
}

// product: a times b in 128 bits; the higher ones have the sign.
func product(a, b int) (int64, uint64) {
	high, low := bits.Mul64(uint64(a), uint64(b))
	// Without signs a number below 0 is 2^64 too great: what that gives is taken off the higher bits.
	if a < 0 {
		high -= uint64(b)
	}
	if b < 0 {
		high -= uint64(a)
	}
	return int64(high), low
}

// Scale: so many parts of num by den, rounded down; 0, if den isn't above 0.
func Scale(part, num, den int) int {
	if den <= 0 {
		return 0
	}
	n, _ := MulDiv(part, num, den)
	return n
}

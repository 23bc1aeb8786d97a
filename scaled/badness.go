package scaled

import (
	"math/bits"
	"sort"
)

// Worst is the badness of what can't be set.
const Worst = 10000

// short is a measure of which 100 times the third power has room in an int, and so has the third power of five times as much.
const short = 1 << 18

// Bad: how bad it is to stretch (or shrink) by t what gives s: 100 times the third power of t by s, rounded down, at most Worst.
func Bad(t, s int) int {
	t, s = Clamp(t), Clamp(s)
	switch {
	case t <= 0:
		return 0
	case s <= 0 || t >= 5*s: // 100 times the third power of 5 is above Worst
		return Worst
	case s >= 5*t: // and by it 100 is less than 1
		return 0
	case t <= short:
		return min(100*t*t*t/(s*s*s), Worst)
	}
	return wideBad(t, s)
}

// wideBad: Bad of t and s above 0 whose third powers have no room in an int: the greatest number at most Worst of which s's third power as many times isn't above 100 times t's.
func wideBad(t, s int) int {
	most, unit := cube(t).times(100), cube(s)
	return sort.Search(Worst, func(n int) bool {
		return unit.times(uint64(n) + 1).above(most)
	})
}

// wide is a number of 256 bits, the lowest 64 first: enough for Worst times the third power of Most.
type wide [4]uint64

// cube: the third power of a number above 0.
func cube(a int) wide {
	n := uint64(a)
	return wide{n}.times(n).times(n)
}

// times: w as many times.
func (w wide) times(n uint64) wide {
	carry := uint64(0)
	for k := range w {
		high, low := bits.Mul64(w[k], n)
		sum, more := bits.Add64(low, carry, 0)
		w[k], carry = sum, high+more
	}
	return w
}

// above: is w greater than v?
func (w wide) above(v wide) bool {
	for k := len(w) - 1; k >= 0; k-- {
		if w[k] != v[k] {
			return w[k] > v[k]
		}
	}
	return false
}

// Demerits: of a line: the square of what each line costs and its badness together; and of the penalty where it ends the square more, or less if it is below 0; a forced break's doesn't count. Not below 0.
func Demerits(line, bad, penalty int) int {
	total := square(Add(line, bad))
	switch {
	case penalty >= 0:
		total = Add(total, square(penalty))
	case penalty > -Worst:
		total = Sub(total, square(penalty))
	}
	return max(total, 0)
}

// square: a times a.
func square(a int) int { return Mul(a, a) }

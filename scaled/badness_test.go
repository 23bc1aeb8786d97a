package scaled_test

import (
	"math"
	"testing"

	"reglet/scaled"
)

// P1.5, with the chapter's examples. 4.6415 is just below the third root of 100, 4.6416 just above it.
func TestBad(t *testing.T) {
	for _, c := range [][3]int{
		{3, 2, 337}, {9, 2, 9112}, {1, 1, 100}, {1, 2, 12}, {1, 4, 1}, {1, 5, 0}, {2, 1, 800}, {4, 1, 6400}, {5, 1, 10000},
		{46415, 10000, 9999}, {46416, 10000, 10000}, {46415, 215439, 1}, {46415, 215440, 0},
		{0, 0, 0}, {0, 5, 0}, {-1, 0, 0}, {-4, 2, 0}, {-1, -1, 0}, {math.MinInt, math.MinInt, 0}, {math.MinInt, 1, 0},
		{1, 0, 10000}, {1, -1, 10000}, {most, 0, 10000}, {math.MaxInt, math.MinInt, 10000},
		{most, most, 100}, {math.MaxInt, math.MaxInt, 100}, {math.MaxInt, most, 100}, {most, 1, 10000}, {1, most, 0},
		{most, most / 2, 800}, {most / 2, most, 12}, {most, most / 4, 6400}, {most, most / 5, 10000}, {most, most/5 - 1, 10000}, {most / 5, most, 0}, {most - 1, most, 99},
	} {
		if n := scaled.Bad(c[0], c[1]); n != c[2] {
			t.Errorf("Bad(%d, %d) = %d, not %d", c[0], c[1], n, c[2])
		}
	}
}

// P1.5, held against exact numbers: the edges, numbers of all lengths, and such as are near each other.
func TestBadIsExact(t *testing.T) {
	list := append(edges(), mixed(100)...)
	for _, a := range list {
		for _, b := range list {
			checkBad(t, a, b)
		}
		for k := 1; k < 30; k++ {
			checkBad(t, a, scaled.Scale(a, k, 6))
			checkBad(t, scaled.Scale(a, k, 6), a)
			checkBad(t, scaled.Scale(a, 46415, 10000)+k-15, a)
			checkBad(t, a, scaled.Scale(a, 46415, 10000)+k-15)
		}
	}
	for a := 1; a < 60; a++ {
		for b := 1; b < 300; b++ {
			checkBad(t, a, b)
			checkBad(t, a*1000000007, b*1000000007)
		}
	}
}

func checkBad(t *testing.T, up, down int) {
	t.Helper()
	if n, want := scaled.Bad(up, down), exactBad(up, down); n != want {
		t.Errorf("Bad(%d, %d) = %d, not %d", up, down, n, want)
	}
}

// P1.6: where t rises badness doesn't fall, and where s rises it doesn't rise.
func TestBadIsMonotone(t *testing.T) {
	list := append(edges(), mixed(150)...)
	for k := 1; k < 12; k++ { // around the lengths up to which one way of reckoning holds, and from which another does
		list = append(list, 1<<18+k, 1<<18-k, 5<<18+k, 5<<18-k, 1<<18*k/4, most/k, most/k-1)
	}
	list = rising(list)
	for _, fixed := range list {
		for k := 1; k < len(list); k++ {
			if less, more := scaled.Bad(list[k-1], fixed), scaled.Bad(list[k], fixed); less > more {
				t.Errorf("Bad(%d, %d) = %d, but Bad(%d, %d) = %d", list[k-1], fixed, less, list[k], fixed, more)
			}
			if more, less := scaled.Bad(fixed, list[k-1]), scaled.Bad(fixed, list[k]); less > more {
				t.Errorf("Bad(%d, %d) = %d, but Bad(%d, %d) = %d", fixed, list[k-1], more, fixed, list[k], less)
			}
		}
	}
}

// P1.5: a penalty at 0 and above, below 0, and at -Worst.
func TestDemerits(t *testing.T) {
	for _, c := range [][4]int{
		{10, 0, 0, 100}, {10, 5, 0, 225}, {-10, 4, 0, 36}, {0, 0, 0, 0},
		{10, 5, 50, 2725}, {10, 5, 1, 226}, {0, 0, 10000, 100000000}, {10, 0, 20000, 400000100},
		{10, 5, -1, 224}, {10, 5, -15, 0}, {10, 5, -16, 0}, {100, 0, -50, 7500}, {10000, 0, -9999, 19999}, {9998, 0, -9999, 0},
		{10, 5, -10000, 225}, {10, 5, -10001, 225}, {10, 5, -most, 225}, {10, 5, math.MinInt, 225}, {20000, 0, -10000, 400000000},
		{10, 10000, 50, 100202600}, {most, most, 0, most}, {most, -most, 3, 9}, {most, 1, -1, most - 1}, {-most, 0, -9999, most - 9999*9999},
		{0, 0, most, most}, {5, 5, math.MaxInt, most}, {math.MinInt, math.MaxInt, -3, 0}, {math.MinInt, math.MinInt, math.MinInt, most},
		{1 << 30, 0, 0, most}, {1<<30 - 1, 0, 0, most - 1<<31 + 1}, {1<<30 - 1, 0, 1 << 15, most - 1<<30 + 1}, {1<<30 - 1, 0, 1 << 20, most},
	} {
		if n := scaled.Demerits(c[0], c[1], c[2]); n != c[3] {
			t.Errorf("Demerits(%d, %d, %d) = %d, not %d", c[0], c[1], c[2], n, c[3])
		}
	}
}

// P1.5: the sentence on Demerits, by the layer's own sums and products.
func TestDemeritsByParts(t *testing.T) {
	for _, line := range few() {
		for _, bad := range few() {
			for _, penalty := range append(edges(), -9998, -10002) {
				sum := scaled.Add(line, bad)
				want := scaled.Mul(sum, sum)
				if penalty >= 0 {
					want = scaled.Add(want, scaled.Mul(penalty, penalty))
				}
				if penalty < 0 && penalty > -scaled.Worst {
					want = scaled.Sub(want, scaled.Mul(penalty, penalty))
				}
				if n := scaled.Demerits(line, bad, penalty); n != max(want, 0) {
					t.Errorf("Demerits(%d, %d, %d) = %d, not %d", line, bad, penalty, n, max(want, 0))
				}
			}
		}
	}
}

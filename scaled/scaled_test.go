package scaled_test

import (
	"math"
	"math/big"
	"slices"
	"testing"

	"reglet/scaled"
)

const most = scaled.Most

// P1.1: the constants, and Clamp.
func TestClamp(t *testing.T) {
	if scaled.Most != 1152921504606846976 || scaled.Worst != 10000 {
		t.Errorf("Most %d, Worst %d", scaled.Most, scaled.Worst)
	}
	for _, c := range [][2]int{
		{0, 0}, {1, 1}, {-1, -1},
		{most - 1, most - 1}, {most, most}, {most + 1, most}, {math.MaxInt, most},
		{-most + 1, -most + 1}, {-most, -most}, {-most - 1, -most}, {math.MinInt, -most},
	} {
		if n := scaled.Clamp(c[0]); n != c[1] {
			t.Errorf("Clamp(%d) = %d, not %d", c[0], n, c[1])
		}
	}
}

// P1.1: what is beyond Most is taken as Most, by every function.
func TestArgumentsAreClamped(t *testing.T) {
	wild := []int{math.MinInt, math.MinInt + 1, -most - 1, most + 1, 1 << 62, math.MaxInt}
	for _, a := range wild {
		near := scaled.Clamp(a)
		if got, want := calls(a, 3, 5, 7), calls(near, 3, 5, 7); !slices.Equal(got, want) {
			t.Errorf("first %d: %v, not %v", a, got, want)
		}
		if got, want := calls(3, a, 5, 7), calls(3, near, 5, 7); !slices.Equal(got, want) {
			t.Errorf("second %d: %v, not %v", a, got, want)
		}
		if got, want := calls(3, 5, a, 7), calls(3, 5, near, 7); !slices.Equal(got, want) {
			t.Errorf("third %d: %v, not %v", a, got, want)
		}
		if got, want := calls(3, 5, 7, a), calls(3, 5, 7, near); !slices.Equal(got, want) {
			t.Errorf("fourth %d: %v, not %v", a, got, want)
		}
	}
}

// P1.1 and P1: no call panics, and no answer passes Most.
func TestAnswersAreClamped(t *testing.T) {
	for _, a := range few() {
		for _, b := range few() {
			for _, c := range few() {
				for _, d := range []int{0, 1, -7, most, math.MinInt, math.MaxInt} {
					for k, n := range calls(a, b, c, d) {
						if n != scaled.Clamp(n) {
							t.Fatalf("call %d of %d, %d, %d, %d = %d", k, a, b, c, d, n)
						}
					}
				}
			}
		}
	}
}

// calls: all that the functions tell of some numbers.
func calls(a, b, c, d int) []int {
	div, divOK := scaled.Div(a, b)
	mod, modOK := scaled.Mod(a, b)
	part, partOK := scaled.MulDiv(a, b, c)
	x, y := scaled.Lowest(a, b)
	list := []int{
		scaled.Clamp(a), scaled.Add(a, b), scaled.Sub(a, b), scaled.Neg(a), scaled.Sum(a, b, c, d), scaled.Mul(a, b),
		div, mod, part, scaled.Gcd(a, b), x, y,
		scaled.Bad(a, b), scaled.Demerits(a, b, c), scaled.Scale(a, b, c),
	}
	less := false
	if b > 0 && d > 0 { // of others any answer will do
		less = scaled.Less(a, b, c, d)
	}
	for _, ok := range []bool{divOK, modOK, partOK, less} {
		n := 0
		if ok {
			n = 1
		}
		list = append(list, n)
	}
	return list
}

// P1.2, with the chapter's example.
func TestAdd(t *testing.T) {
	for _, c := range [][3]int{
		{2, 3, 5}, {-2, 3, 1}, {0, 0, 0},
		{most, 1, most}, {most - 1, 1, most}, {most, -1, most - 1}, {most, most, most},
		{-most, -1, -most}, {-most, -most, -most}, {most, -most, 0},
		{math.MaxInt, math.MaxInt, most}, {math.MinInt, math.MinInt, -most}, {math.MaxInt, -1, most - 1}, {math.MinInt, math.MaxInt, 0},
	} {
		if n := scaled.Add(c[0], c[1]); n != c[2] {
			t.Errorf("Add(%d, %d) = %d, not %d", c[0], c[1], n, c[2])
		}
	}
}

// P1.2.
func TestSubAndNeg(t *testing.T) {
	for _, c := range [][3]int{
		{5, 3, 2}, {3, 5, -2}, {most, -1, most}, {-most, 1, -most}, {-most, -most, 0}, {0, math.MinInt, most}, {math.MinInt, math.MaxInt, -most}, {math.MinInt, -1, -most + 1},
	} {
		if n := scaled.Sub(c[0], c[1]); n != c[2] {
			t.Errorf("Sub(%d, %d) = %d, not %d", c[0], c[1], n, c[2])
		}
	}
	for _, c := range [][2]int{{0, 0}, {4, -4}, {-4, 4}, {most, -most}, {-most, most}, {math.MinInt, most}, {math.MaxInt, -most}} {
		if n := scaled.Neg(c[0]); n != c[1] {
			t.Errorf("Neg(%d) = %d, not %d", c[0], n, c[1])
		}
	}
}

// P1.2.
func TestMul(t *testing.T) {
	for _, c := range [][3]int{
		{6, 7, 42}, {-6, 7, -42}, {-6, -7, 42}, {0, math.MinInt, 0},
		{most, 1, most}, {most, -1, -most}, {1 << 30, 1 << 30, most}, {1 << 30, -(1 << 30), -most},
		{1<<30 + 1, 1 << 30, most}, {1<<30 - 1, 1<<30 + 1, most - 1}, {1<<30 + 1, -(1 << 30), -most},
		{1 << 32, 1 << 32, most}, {1 << 40, -(1 << 24), -most}, {most, most, most}, {most, -most, -most},
		{math.MinInt, math.MinInt, most}, {math.MaxInt, math.MinInt, -most}, {math.MinInt, 1, -most},
	} {
		if n := scaled.Mul(c[0], c[1]); n != c[2] {
			t.Errorf("Mul(%d, %d) = %d, not %d", c[0], c[1], n, c[2])
		}
	}
}

// P1.2: number by number, so that what passed Most on the way is lost.
func TestSum(t *testing.T) {
	for _, c := range []struct {
		list []int
		want int
	}{
		{nil, 0}, {[]int{5}, 5}, {[]int{1, 2, 3, -10}, -4},
		{[]int{most, 1, -1}, most - 1}, {[]int{-most, -5, 5}, -most + 5}, {[]int{1, most, -1}, most - 1},
		{[]int{math.MaxInt, math.MaxInt, -most}, 0}, {[]int{math.MinInt}, -most}, {[]int{math.MaxInt, math.MinInt, 7}, 7},
	} {
		if n := scaled.Sum(c.list...); n != c.want {
			t.Errorf("Sum(%v) = %d, not %d", c.list, n, c.want)
		}
	}
	if n := scaled.Sum(); n != 0 {
		t.Errorf("Sum() = %d", n)
	}
}

// P2: a list that is handed in stays as it is, with its spare room.
func TestSumLeavesItsList(t *testing.T) {
	room := []int{math.MaxInt, 2, math.MinInt, 4}
	scaled.Sum(room[:2]...)
	if !slices.Equal(room, []int{math.MaxInt, 2, math.MinInt, 4}) {
		t.Errorf("the list is %v", room)
	}
}

// P1.2, held against exact numbers.
func TestSumsAndProductsAreExact(t *testing.T) {
	list := append(edges(), mixed(100)...)
	for _, a := range list {
		for _, b := range list {
			if n, want := scaled.Add(a, b), told(add(exact(a), exact(b))); n != want {
				t.Errorf("Add(%d, %d) = %d, not %d", a, b, n, want)
			}
			if n, want := scaled.Sub(a, b), told(sub(exact(a), exact(b))); n != want {
				t.Errorf("Sub(%d, %d) = %d, not %d", a, b, n, want)
			}
			if n, want := scaled.Mul(a, b), told(mul(exact(a), exact(b))); n != want {
				t.Errorf("Mul(%d, %d) = %d, not %d", a, b, n, want)
			}
			if n, want := scaled.Sum(a, b, a), scaled.Add(scaled.Add(a, b), a); n != want {
				t.Errorf("Sum(%d, %d, %d) = %d, not %d", a, b, a, n, want)
			}
		}
		if n, want := scaled.Neg(a), told(new(big.Int).Neg(exact(a))); n != want {
			t.Errorf("Neg(%d) = %d, not %d", a, n, want)
		}
	}
}

// P1.3, with the chapter's examples; in the last two b times Div's number passes Most, but what is left doesn't.
func TestDivAndMod(t *testing.T) {
	for _, c := range [][4]int{
		{7, 2, 3, 1}, {-7, 2, -4, 1}, {7, -2, -4, -1}, {-7, -2, 3, -1}, {6, 2, 3, 0}, {-6, 2, -3, 0}, {6, -2, -3, 0}, {0, 5, 0, 0}, {0, -5, 0, 0},
		{1, most, 0, 1}, {-1, most, -1, most - 1}, {1, -most, -1, -most + 1}, {most, -1, -most, 0}, {-most, -1, most, 0},
		{math.MinInt, -1, most, 0}, {math.MinInt, math.MaxInt, -1, 0}, {math.MaxInt, math.MinInt, -1, 0}, {math.MinInt, 1, -most, 0},
		{-most, most - 1, -2, most - 2}, {most, 1 - most, -2, 2 - most},
	} {
		n, ok := scaled.Div(c[0], c[1])
		if !ok || n != c[2] {
			t.Errorf("Div(%d, %d) = %d, %v, not %d", c[0], c[1], n, ok, c[2])
		}
		rest, ok := scaled.Mod(c[0], c[1])
		if !ok || rest != c[3] {
			t.Errorf("Mod(%d, %d) = %d, %v, not %d", c[0], c[1], rest, ok, c[3])
		}
	}
}

// P1.3: 0 and false.
func TestDivisorsOfNought(t *testing.T) {
	for _, a := range edges() {
		if n, ok := scaled.Div(a, 0); n != 0 || ok {
			t.Errorf("Div(%d, 0) = %d, %v", a, n, ok)
		}
		if n, ok := scaled.Mod(a, 0); n != 0 || ok {
			t.Errorf("Mod(%d, 0) = %d, %v", a, n, ok)
		}
		if n, ok := scaled.MulDiv(a, 3, 0); n != 0 || ok {
			t.Errorf("MulDiv(%d, 3, 0) = %d, %v", a, n, ok)
		}
		if n, ok := scaled.MulDiv(0, a, 0); n != 0 || ok {
			t.Errorf("MulDiv(0, %d, 0) = %d, %v", a, n, ok)
		}
	}
}

// P1.3, held against exact numbers.
func TestDivAndModAreExact(t *testing.T) {
	list := append(edges(), mixed(100)...)
	for _, a := range list {
		for _, b := range list {
			if b == 0 {
				continue
			}
			quotient := floor(exact(a), exact(b))
			if n, ok := scaled.Div(a, b); !ok || n != told(quotient) {
				t.Errorf("Div(%d, %d) = %d, %v, not %d", a, b, n, ok, quotient)
			}
			rest := sub(exact(a), mul(exact(b), quotient))
			if n, ok := scaled.Mod(a, b); !ok || n != told(rest) {
				t.Errorf("Mod(%d, %d) = %d, %v, not %d", a, b, n, ok, rest)
			}
		}
	}
}

// P1.3.
func TestMulDiv(t *testing.T) {
	for _, c := range [][4]int{
		{7, 3, 2, 10}, {-7, 3, 2, -11}, {7, -3, 2, -11}, {7, 3, -2, -11}, {-7, -3, -2, -11}, {-7, -3, 2, 10}, {-7, 3, -2, 10}, {-6, 3, 2, -9}, {0, -5, 3, 0}, {5, 0, -3, 0},
		{most, 3, 7, 494109216260077275}, {most, -3, 7, -494109216260077276}, {most, most, most, most}, {-most, most, most, -most}, {most, most - 1, most, most - 1},
		{most, most, 1, most}, {most, -most, 1, -most}, {most, most, -1, -most}, {-most, -most, -1, -most},
		{most, 16, 1, most}, {most, -16, 1, -most}, {most, 15, 1, most}, {most, -31, 2, -most}, {most, 2, 3, 768614336404564650},
		{most, most - 1, 1 - most, -most}, {-1, 1, most, -1}, {1, 1, most, 0}, {1, 1, math.MinInt, -1},
		{math.MinInt, math.MinInt, math.MinInt, -most}, {math.MaxInt, math.MinInt, math.MinInt, most}, {1<<60 - 1, 1<<60 - 1, 1<<60 - 2, most},
	} {
		if n, ok := scaled.MulDiv(c[0], c[1], c[2]); !ok || n != c[3] {
			t.Errorf("MulDiv(%d, %d, %d) = %d, %v, not %d", c[0], c[1], c[2], n, ok, c[3])
		}
	}
}

// P1.3.
func TestScale(t *testing.T) {
	for _, c := range [][4]int{
		{6, 1, 2, 3}, {7, 1, 2, 3}, {7, -1, 2, -4}, {-7, 1, 2, -4}, {0, 5, 9, 0}, {most, 5, 4, most}, {most, -5, 4, -most}, {most, most, most, most}, {9, most, math.MaxInt, 9},
		{6, 1, 0, 0}, {6, 1, -1, 0}, {6, 1, -most, 0}, {6, 1, math.MinInt, 0}, {math.MinInt, math.MaxInt, 0, 0},
	} {
		if n := scaled.Scale(c[0], c[1], c[2]); n != c[3] {
			t.Errorf("Scale(%d, %d, %d) = %d, not %d", c[0], c[1], c[2], n, c[3])
		}
	}
}

// P1.3, held against exact numbers.
func TestMulDivAndScaleAreExact(t *testing.T) {
	list := append(edges(), mixed(20)...)
	for _, a := range list {
		for _, b := range list {
			for _, c := range list {
				if c == 0 {
					continue
				}
				want := told(floor(mul(exact(a), exact(b)), exact(c)))
				if n, ok := scaled.MulDiv(a, b, c); !ok || n != want {
					t.Fatalf("MulDiv(%d, %d, %d) = %d, %v, not %d", a, b, c, n, ok, want)
				}
				if c < 0 {
					want = 0
				}
				if n := scaled.Scale(a, b, c); n != want {
					t.Fatalf("Scale(%d, %d, %d) = %d, not %d", a, b, c, n, want)
				}
			}
		}
	}
}

// P1.4.
func TestGcd(t *testing.T) {
	for _, c := range [][3]int{
		{12, 18, 6}, {-12, 18, 6}, {12, -18, 6}, {-12, -18, 6}, {7, 5, 1}, {0, 0, 0}, {0, -5, 5}, {5, 0, 5},
		{most, most, most}, {-most, 0, most}, {most, most - 1, 1}, {math.MinInt, 0, most}, {math.MaxInt, math.MinInt, most}, {math.MinInt, 6, 2}, {math.MaxInt, 7, 1},
	} {
		if n := scaled.Gcd(c[0], c[1]); n != c[2] {
			t.Errorf("Gcd(%d, %d) = %d, not %d", c[0], c[1], n, c[2])
		}
	}
}

// P1.4, held against exact numbers.
func TestGcdIsExact(t *testing.T) {
	list := append(edges(), mixed(100)...)
	for _, a := range list {
		for _, b := range list {
			x, y := exact(a), exact(b)
			want := told(new(big.Int).GCD(nil, nil, x.Abs(x), y.Abs(y)))
			if n := scaled.Gcd(a, b); n != want {
				t.Errorf("Gcd(%d, %d) = %d, not %d", a, b, n, want)
			}
		}
	}
}

// P1.4, with the chapter's example.
func TestLowest(t *testing.T) {
	for _, c := range [][4]int{
		{6, -4, -3, 2}, {6, 4, 3, 2}, {-6, 4, -3, 2}, {-6, -4, 3, 2}, {3, 2, 3, 2}, {8, 4, 2, 1}, {0, 7, 0, 1}, {0, -7, 0, 1},
		{0, 0, 0, 1}, {5, 0, 0, 1}, {-5, 0, 0, 1}, {math.MinInt, 0, 0, 1},
		{most, -most, -1, 1}, {1, -most, -1, most}, {-most, 3, -most, 3}, {math.MinInt, math.MaxInt, -1, 1}, {math.MaxInt, math.MinInt, -1, 1}, {math.MinInt, 2, -most / 2, 1},
	} {
		if x, y := scaled.Lowest(c[0], c[1]); x != c[2] || y != c[3] {
			t.Errorf("Lowest(%d, %d) = %d, %d, not %d, %d", c[0], c[1], x, y, c[2], c[3])
		}
	}
}

// P1.4: the same fraction, no common divisor but 1, the second number above 0.
func TestLowestIsExact(t *testing.T) {
	list := append(edges(), mixed(100)...)
	for _, a := range list {
		for _, b := range list {
			if b == 0 {
				continue
			}
			x, y := scaled.Lowest(a, b)
			want := new(big.Rat).SetFrac(exact(a), exact(b))
			if int64(x) != want.Num().Int64() || int64(y) != want.Denom().Int64() {
				t.Errorf("Lowest(%d, %d) = %d, %d, not %s", a, b, x, y, want)
			}
		}
	}
}

// P1.4.
func TestLess(t *testing.T) {
	for _, c := range []struct {
		a, b, c, d int
		want       bool
	}{
		{1, 3, 1, 2, true}, {1, 2, 1, 3, false}, {1, 2, 2, 4, false}, {-1, 2, -1, 3, true}, {-1, 3, -1, 2, false}, {-1, 2, 1, 2, true}, {1, 2, -1, 2, false},
		{0, 5, 0, 1, false}, {-1, 5, 0, 1, true}, {0, 1, -1, 5, false}, {0, 1, 1, 5, true},
		{most - 1, most, 1, 1, true}, {most - 2, most - 1, most - 1, most, true}, {most - 1, most, most - 2, most - 1, false}, {-most, 1, most, 1, true}, {most, 1, -most, 1, false},
		{1 - most, most, 2 - most, most - 1, true}, {2 - most, most - 1, 1 - most, most, false},
		{math.MinInt, 1, -most, 1, false}, {math.MaxInt, math.MaxInt, 1, 1, false}, {math.MinInt, 1, math.MaxInt, 1, true}, {most, 1, math.MaxInt, 1, false},
	} {
		if less := scaled.Less(c.a, c.b, c.c, c.d); less != c.want {
			t.Errorf("Less(%d, %d, %d, %d) = %v", c.a, c.b, c.c, c.d, less)
		}
	}
}

// P1.4, held against exact numbers; of b and d that aren't above 0 the call ends.
func TestLessIsExact(t *testing.T) {
	list := append(few(), mixed(15)...)
	for _, a := range list {
		for _, b := range list {
			for _, c := range list {
				for _, d := range list {
					less := scaled.Less(a, b, c, d)
					if b <= 0 || d <= 0 {
						continue
					}
					if want := mul(exact(a), exact(d)).Cmp(mul(exact(c), exact(b))) < 0; less != want {
						t.Fatalf("Less(%d, %d, %d, %d) = %v", a, b, c, d, less)
					}
				}
			}
		}
	}
}

// P1.7: where nothing is clamped, b times Div's number and Mod's together are a; and Mod lies from 0 up to b.
func TestDivAndModGiveBack(t *testing.T) {
	list := append(edges(), mixed(200)...)
	for _, a := range list {
		for _, b := range list {
			if b == 0 || a != scaled.Clamp(a) || b != scaled.Clamp(b) {
				continue
			}
			n, _ := scaled.Div(a, b)
			rest, _ := scaled.Mod(a, b)
			back := add(mul(exact(b), exact(n)), exact(rest))
			if back.Cmp(big.NewInt(int64(a))) != 0 {
				t.Errorf("%d by %d: %d and %d give %s", a, b, n, rest, back)
			}
			if rest != 0 && (rest < 0) != (b < 0) || exact(rest).CmpAbs(exact(b)) >= 0 {
				t.Errorf("Mod(%d, %d) = %d", a, b, rest)
			}
			product := scaled.Mul(b, n)
			if product > -most && product < most && scaled.Add(product, rest) != a {
				t.Errorf("Add(Mul(%d, %d), %d) isn't %d", b, n, rest, a)
			}
		}
	}
}

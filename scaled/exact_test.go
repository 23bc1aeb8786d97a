package scaled_test

import (
	"math"
	"math/big"
	"slices"

	"reglet/scaled"
)

// These numbers are the edges that the chapter names, both sides of each, and ordinary ones.
func edges() []int {
	list := []int{0}
	for _, n := range []int{1, 2, 3, 5, 6, 7, 12, 100, 9999, 10000, 10001, 1<<18 - 1, 1 << 18, 1<<18 + 1, 1000003, 1 << 30, 1<<31 + 1, 1<<32 - 1, 1 << 40, 1<<59 - 1, 1 << 59, scaled.Most - 1, scaled.Most, scaled.Most + 1, 1 << 62, math.MaxInt} {
		list = append(list, n, -n)
	}
	return append(list, math.MinInt)
}

// few is a part of the edges, for functions of three and four numbers.
func few() []int {
	return []int{0, 1, -1, 2, -3, 7, 10000, -9999, 1<<32 + 1, -(1 << 59), scaled.Most - 1, scaled.Most, -scaled.Most, scaled.Most + 1, math.MaxInt, math.MinInt}
}

// mixed: numbers of all lengths, the same ones each time.
func mixed(many int) []int {
	list := make([]int, many)
	state := uint64(88172645463325252)
	for k := range list {
		state ^= state << 13
		state ^= state >> 7
		state ^= state << 17
		list[k] = int(state) >> (state % 61)
	}
	return list
}

// exact: a number as the chapter takes it, without a greatest one for what comes of it.
func exact(a int) *big.Int {
	n := big.NewInt(int64(a))
	if n.CmpAbs(greatest()) > 0 {
		return signed(n.Sign())
	}
	return n
}

func greatest() *big.Int { return new(big.Int).Lsh(big.NewInt(1), 60) }

func signed(sign int) *big.Int {
	if sign < 0 {
		return new(big.Int).Neg(greatest())
	}
	return greatest()
}

// told: an exact number as the chapter tells it.
func told(n *big.Int) int {
	if n.CmpAbs(greatest()) > 0 {
		n = signed(n.Sign())
	}
	return int(n.Int64())
}

// floor: the greatest whole number that isn't above a by b.
func floor(a, b *big.Int) *big.Int {
	n, rest := new(big.Int).QuoRem(a, b, new(big.Int))
	if rest.Sign() != 0 && rest.Sign() != b.Sign() {
		n.Sub(n, big.NewInt(1))
	}
	return n
}

func add(a, b *big.Int) *big.Int { return new(big.Int).Add(a, b) }

func sub(a, b *big.Int) *big.Int { return new(big.Int).Sub(a, b) }

func mul(a, b *big.Int) *big.Int { return new(big.Int).Mul(a, b) }

// exactBad is the chapter's sentence on Bad.
func exactBad(t, s int) int {
	up, down := exact(t), exact(s)
	if up.Sign() <= 0 {
		return 0
	}
	if down.Sign() <= 0 {
		return 10000
	}
	n := floor(mul(big.NewInt(100), mul(up, mul(up, up))), mul(down, mul(down, down)))
	if n.Cmp(big.NewInt(10000)) > 0 {
		return 10000
	}
	return int(n.Int64())
}

// rising: numbers in order, each once.
func rising(list []int) []int {
	list = slices.Clone(list)
	slices.Sort(list)
	return slices.Compact(list)
}

package measure_test

import (
	"math"
	"math/big"
	"math/rand/v2"
	"testing"

	"reglet/api"
	"reglet/items"
	"reglet/measure"
	"reglet/metrics"
)

// mostMeasure is the greatest measure of an item; mostItems how many items a paragraph has at most.
const (
	mostMeasure = 1 << 36
	mostItems   = 262144
)

// Items without bytes.

func box(width int) api.Item { return api.Item{Kind: api.Box, Width: width} }

func glue(width, stretch, shrink int) api.Item {
	return api.Item{Kind: api.Glue, Width: width, Stretch: stretch, Shrink: shrink}
}

func penalty(width, cost int) api.Item { return api.Item{Kind: api.Penalty, Width: width, Cost: cost} }

func fill() api.Item { return api.Item{Kind: api.Glue, Fill: true} }

func forced() api.Item { return penalty(0, -10000) }

// mixed: a paragraph made by hand, with every kind of item behind a break.
func mixed() []api.Item {
	return []api.Item{
		0: glue(9, 4, 3), 1: box(30), 2: glue(10, 5, 3), 3: glue(11, 6, 2), 4: penalty(0, 10000), 5: box(20), 6: penalty(7, 50), 7: box(25),
		8: penalty(40, 10000), 9: glue(8, 2, 8), 10: penalty(3, -9999), 11: penalty(0, 0), 12: fill(), 13: fill(), 14: penalty(2, -10000),
		15: glue(5, 1, 1), 16: penalty(4, 0), 17: penalty(6, -10000), 18: box(15), 19: glue(12, 0, 0), 20: glue(1, 1, 1), 21: fill(), 22: glue(6, 6, 6), 23: penalty(1, -10000),
	}
}

// made: a paragraph of items that are right.
func made(t testing.TB, list []api.Item) *measure.Para {
	t.Helper()
	p, e := measure.New(list)
	if e != api.OK || p == nil {
		t.Fatalf("New: %v, %d", p, e)
	}
	return p
}

// built: the items of a text in one style, whose letters are 6 wide.
func built(t testing.TB, text string) []api.Item {
	t.Helper()
	m, e, _ := metrics.New([]api.Style{{Height: 10, Space: 10, Stretch: 5, Shrink: 3, Hyphen: 4, Other: 6}})
	if e != api.OK {
		t.Fatal(e)
	}
	list, e := items.Build(m, text, []api.Run{{Len: len(text)}})
	if e != api.OK {
		t.Fatal(e)
	}
	return list
}

// ends is P8.1's sentence, by P7.3's: the places at which a line may end.
func ends(list []api.Item) []int {
	all := []int{}
	for k, x := range list {
		if x.Kind == 3 && x.Cost < 10000 || x.Kind == 2 && !x.Fill && k > 0 && list[k-1].Kind == 1 {
			all = append(all, k)
		}
	}
	return all
}

// start is P8.2's first sentence.
func start(list []api.Item, a int) int {
	if a < 0 {
		return 0
	}
	for k, x := range list {
		if k > a && (x.Kind == 1 || x.Kind == 3 && x.Cost == -10000 || x.Kind == 2 && x.Fill) {
			return k
		}
	}
	return len(list)
}

// line is P8.2's second sentence; the number beside it is what b adds.
func line(list []api.Item, a, b int) (measure.Sum, int) {
	s := measure.Sum{}
	if b < 0 || b >= len(list) {
		return s, 0
	}
	for k := start(list, a); k < b; k++ {
		x := list[k]
		s.Stretch += x.Stretch
		s.Shrink += x.Shrink
		switch {
		case x.Fill:
			s.Fills++
		case x.Kind != 3:
			s.Width += x.Width
		}
	}
	if list[b].Kind != 3 {
		return s, 0
	}
	s.Width += list[b].Width
	return s, list[b].Width
}

// bounds is P8.2's third sentence.
func bounds(list []api.Item, a, b int) (int, int, bool) {
	s, adds := line(list, a, b)
	most := 0
	for _, x := range list {
		if x.Kind == 3 && x.Width > most {
			most = x.Width
		}
	}
	width := s.Width - adds
	return width - s.Shrink, width + 5*s.Stretch + most, s.Fills != 0
}

// badness: 100 times the third power of t by s, rounded down, at most 10000, by numbers that have no bound; both above 0.
func badness(t, s int) int {
	cube := func(n int) *big.Int { return new(big.Int).Exp(big.NewInt(int64(n)), big.NewInt(3), nil) }
	bad := new(big.Int).Quo(new(big.Int).Mul(big.NewInt(100), cube(t)), cube(s))
	if bad.Cmp(big.NewInt(10000)) > 0 {
		return 10000
	}
	return int(bad.Int64())
}

// set is P8.3's sentence.
func set(s measure.Sum, width int) api.Fit {
	short := width - s.Width
	if short == 0 || short > 0 && s.Fills > 0 {
		return api.Fit{Num: 0, Den: 1, Bad: 0, Class: 1}
	}
	if short > 0 && s.Stretch == 0 {
		return api.Fit{Num: 0, Den: 1, Bad: 10000, Class: 3}
	}
	if short < 0 && 0-short > s.Shrink {
		f := api.Fit{Num: -1, Den: 1, Bad: 10000, Class: 0, Over: true}
		if s.Shrink == 0 {
			f.Num = 0
		}
		return f
	}
	by, size := s.Stretch, short
	if short < 0 {
		by, size = s.Shrink, 0-short
	}
	ratio := big.NewRat(int64(short), int64(by))
	f := api.Fit{Num: int(ratio.Num().Int64()), Den: int(ratio.Denom().Int64()), Bad: badness(size, by)}
	switch {
	case short < 0 && f.Bad > 12:
		f.Class = 0
	case short > 0 && f.Bad > 99:
		f.Class = 3
	case short > 0 && f.Bad > 12:
		f.Class = 2
	default:
		f.Class = 1
	}
	return f
}

// bound: a number, as far as 2^60 lets it go.
func bound(n *big.Int) *big.Int {
	most := new(big.Int).Lsh(big.NewInt(1), 60)
	switch {
	case n.Cmp(most) > 0:
		return most
	case n.CmpAbs(most) > 0:
		return most.Neg(most)
	}
	return n
}

// together: two numbers, each of them and what comes of them as far as 2^60 lets it go.
func together(a, b *big.Int) *big.Int {
	return bound(new(big.Int).Add(bound(a), bound(b)))
}

// atMostAwful: a number, as far as 2^50 lets it go.
func atMostAwful(n *big.Int) int {
	if n.Cmp(new(big.Int).Lsh(big.NewInt(1), 50)) > 0 {
		return 1 << 50
	}
	return int(n.Int64())
}

// cost is P8.5's first sentence.
func cost(s api.Settings, f api.Fit, end api.Item, ahead measure.Ahead, last bool) int {
	if f.Over {
		return 1 << 50
	}
	number := func(n int) *big.Int { return big.NewInt(int64(n)) }
	square := func(n *big.Int) *big.Int { return bound(new(big.Int).Mul(n, n)) }
	total := square(together(number(s.Line), number(f.Bad)))
	switch {
	case end.Cost >= 0:
		total = together(total, square(bound(number(end.Cost))))
	case end.Cost > -10000:
		total = together(total, new(big.Int).Neg(square(number(end.Cost))))
	}
	if total.Sign() < 0 {
		total = number(0)
	}
	gap := new(big.Int).Sub(number(f.Class), number(ahead.Class))
	if ahead.Class >= 0 && gap.CmpAbs(number(1)) > 0 {
		total = together(total, number(s.Adjacent))
	}
	if ahead.Flag && end.Flag {
		total = together(total, number(s.Double))
	}
	if ahead.Flag && last {
		total = together(total, number(s.Last))
	}
	return atMostAwful(total)
}

// drawnItem: an item that may be, with measures of at most so much.
func drawnItem(from *rand.Rand, most int) api.Item {
	n := func() int { return from.IntN(most + 1) }
	switch from.IntN(8) {
	case 0, 1, 2:
		return box(n())
	case 3, 4:
		width := n()
		return glue(width, n(), from.IntN(width+1))
	case 5:
		return fill()
	}
	costs := []int{-10000, -10000, -9999, -50, 0, 0, 50, 9999, 10000, 10000}
	return api.Item{Kind: api.Penalty, Width: n(), Cost: costs[from.IntN(len(costs))], Flag: from.IntN(2) == 0}
}

// drawnItems: right items, so many at most, with bytes.
func drawnItems(from *rand.Rand, count, most int) []api.Item {
	var list []api.Item
	for range from.IntN(count) {
		list = append(list, drawnItem(from, most))
	}
	list = append(list, penalty(from.IntN(most+1), -10000))
	at := 0
	for k := range list {
		list[k].From = at
		at += from.IntN(3)
		list[k].To = at
	}
	return list
}

// drawnNumber: one of the ends of all numbers, or of the promises' ones, or a small one.
func drawnNumber(from *rand.Rand) int {
	ends := []int{0, 1, 99, 10000, 1 << 20, 1 << 36, 1 << 50, 1 << 57, 1 << 60, math.MaxInt, math.MinInt}
	n := ends[from.IntN(len(ends))] + from.IntN(7) - 3
	if from.IntN(3) == 0 {
		return -n
	}
	return n
}

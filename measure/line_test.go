package measure_test

import (
	"math"
	"slices"
	"testing"

	"reglet/api"
	"reglet/measure"
)

// beyond: numbers that are no item's, of a paragraph of so many.
func beyond(n int) []int { return []int{-1, -2, math.MinInt, n, n + 1, math.MaxInt - 1, math.MaxInt} }

// holdsLines asks a Para for everything that P8.2 tells, for all pairs of places, and of numbers that are none.
func holdsLines(t *testing.T, list []api.Item) {
	t.Helper()
	p := made(t, list)
	places := beyond(len(list))
	for k := range list {
		places = append(places, k)
	}
	for _, a := range places {
		if got, want := p.Start(a), start(list, a); got != want {
			t.Errorf("Start(%d) of %v: %d, not %d", a, list, got, want)
		}
		for _, b := range places {
			want, _ := line(list, a, b)
			if got := p.Line(a, b); got != want {
				t.Errorf("Line(%d, %d) of %v: %v, not %v", a, b, list, got, want)
			}
			low, high, fills := p.Bounds(a, b)
			wantLow, wantHigh, wantFills := bounds(list, a, b)
			if low != wantLow || high != wantHigh || fills != wantFills {
				t.Errorf("Bounds(%d, %d) of %v: %d, %d, %v, not %d, %d, %v", a, b, list, low, high, fills, wantLow, wantHigh, wantFills)
			}
		}
	}
}

// P8.2: made by hand and built, all places.
func TestLines(t *testing.T) {
	holdsLines(t, []api.Item{forced()})
	holdsLines(t, []api.Item{penalty(9, -10000)})
	holdsLines(t, []api.Item{glue(4, 2, 1), penalty(9, 10000), penalty(3, -10000)})
	holdsLines(t, mixed())
	for _, text := range []string{"a", "\n", "ab cd-ef\u00adgh\u200bi\u2060 \u2028 \tj\n", " a  b", "\u2028\u2028", "one two three four five"} {
		holdsLines(t, built(t, text))
	}
}

// P8.2: Start, written out.
func TestStart(t *testing.T) {
	p := made(t, mixed())
	for _, c := range []struct{ a, want int }{
		{-1, 0}, {-2, 0}, {-99, 0}, {math.MinInt, 0}, // the beginning: Glue isn't dropped there
		{0, 1},           // a Box right behind
		{2, 5},           // behind Glue and a Penalty of Never
		{6, 7},           // a Box behind a Penalty
		{8, 12}, {9, 12}, // behind Glue and Penalties, one of them just dearer than Forced: Glue with Fill
		{10, 12}, {11, 12}, {12, 13}, {13, 14}, // Glue with Fill, then something Forced
		{14, 17},                     // something Forced behind Glue and a Penalty
		{15, 17}, {16, 17}, {17, 18}, // a Box behind something Forced
		{18, 21}, {19, 21}, {20, 21}, {21, 23}, {22, 23},
		{23, 24}, {24, 24}, {25, 24}, {math.MaxInt - 1, 24}, {math.MaxInt, 24}, // the last item, and behind it
	} {
		if got := p.Start(c.a); got != c.want {
			t.Errorf("Start(%d): %d, not %d", c.a, got, c.want)
		}
	}
}

// P8.2: Line, written out.
func TestLine(t *testing.T) {
	p := made(t, mixed())
	for _, c := range []struct {
		a, b int
		want measure.Sum
	}{
		// No such item.
		{-1, -1, measure.Sum{}}, {-1, 24, measure.Sum{}}, {3, 25, measure.Sum{}}, {-1, math.MinInt, measure.Sum{}}, {-1, math.MaxInt, measure.Sum{}}, {math.MaxInt, math.MaxInt, measure.Sum{}},
		// Up to Glue, which adds nothing, and up to Penalties.
		{-1, 2, measure.Sum{Width: 39, Stretch: 4, Shrink: 3}},
		{2, 6, measure.Sum{Width: 27}},
		{6, 9, measure.Sum{Width: 25}},
		{-1, 6, measure.Sum{Width: 87, Stretch: 15, Shrink: 8}},
		// Penalties within are 0 wide.
		{6, 10, measure.Sum{Width: 36, Stretch: 2, Shrink: 8}},
		{6, 11, measure.Sum{Width: 33, Stretch: 2, Shrink: 8}},
		// None, one and two Fills.
		{6, 12, measure.Sum{Width: 33, Stretch: 2, Shrink: 8}},
		{6, 13, measure.Sum{Width: 33, Stretch: 2, Shrink: 8, Fills: 1}},
		{6, 14, measure.Sum{Width: 35, Stretch: 2, Shrink: 8, Fills: 2}},
		{10, 14, measure.Sum{Width: 2, Fills: 2}},
		{17, 23, measure.Sum{Width: 35, Stretch: 7, Shrink: 7, Fills: 1}},
		// The line's first item is the break, or behind it: what the break adds alone.
		{14, 17, measure.Sum{Width: 6}}, {14, 16, measure.Sum{Width: 4}}, {2, 3, measure.Sum{}}, {2, 4, measure.Sum{}}, {2, 5, measure.Sum{}}, {-1, 0, measure.Sum{}},
		// A break that isn't behind the other one.
		{6, 6, measure.Sum{Width: 7}}, {23, 6, measure.Sum{Width: 7}}, {23, 2, measure.Sum{}}, {23, 23, measure.Sum{Width: 1}}, {99, 14, measure.Sum{Width: 2}},
	} {
		if got := p.Line(c.a, c.b); got != c.want {
			t.Errorf("Line(%d, %d): %v, not %v", c.a, c.b, got, c.want)
		}
	}
}

// P8.2: Bounds, written out.
func TestBounds(t *testing.T) {
	for _, c := range []struct {
		list      []api.Item
		a, b      int
		low, high int
		fills     bool
	}{
		// The widest Penalty of all is 40, one of Never, that stands outside of most lines.
		{mixed(), -1, 2, 36, 99, false},
		{mixed(), -1, 6, 72, 195, false}, // without the 7 that b adds
		{mixed(), 2, 6, 20, 60, false},
		{mixed(), 6, 10, 25, 83, false},
		{mixed(), 6, 12, 25, 83, false},
		{mixed(), 6, 13, 25, 83, true},
		{mixed(), 6, 14, 25, 83, true},
		{mixed(), 17, 23, 27, 109, true},
		{mixed(), 14, 17, 0, 40, false},
		{mixed(), 23, 6, 0, 40, false},
		// No such item: a line of nothing.
		{mixed(), -1, -1, 0, 40, false},
		{mixed(), -1, 24, 0, 40, false},
		// No Penalty is wide.
		{[]api.Item{box(30), glue(10, 5, 3), box(30), forced()}, -1, 3, 67, 95, false},
		{[]api.Item{box(30), glue(10, 5, 3), box(30), forced()}, -1, 1, 30, 30, false},
		{[]api.Item{box(30), glue(10, 5, 3), box(30), fill(), forced()}, -1, 4, 67, 95, true},
		// The last Penalty is the widest, or the only one; a Box that is wider doesn't count.
		{[]api.Item{box(30), glue(10, 5, 3), box(30), penalty(8, -10000)}, -1, 3, 67, 103, false},
		{[]api.Item{penalty(9, 10000), box(30), penalty(8, -10000)}, -1, 2, 30, 39, false},
		{[]api.Item{penalty(9, -10000)}, -1, 0, 0, 9, false},
	} {
		low, high, fills := made(t, c.list).Bounds(c.a, c.b)
		if low != c.low || high != c.high || fills != c.fills {
			t.Errorf("Bounds(%d, %d) of %v: %d, %d, %v, not %d, %d, %v", c.a, c.b, c.list, low, high, fills, c.low, c.high, c.fills)
		}
	}
}

// P8.1, P8.2: of a paragraph that layer 7 builds: a hyphen, a soft one, and a new line within.
func TestBuiltLines(t *testing.T) {
	// 0 Box "ab", 1 Glue, 2 Box "c-", 3 Penalty, 4 Box "d", 5 Soft, 6 Box "e", 7 Glue, 8 Glue, 9 Fill, 10 Penalty, 11 Glue, 12 Box "f", 13 Fill, 14 Penalty
	p := made(t, built(t, "ab c-d\u00ade  \u2028 f"))
	if got := p.Legal(); !slices.Equal(got, []int{1, 3, 5, 7, 10, 14}) {
		t.Errorf("Legal: %v", got)
	}
	for _, c := range []struct {
		a, b  int
		start int
		want  measure.Sum
	}{
		{-1, 1, 0, measure.Sum{Width: 12}},
		{-1, 3, 0, measure.Sum{Width: 34, Stretch: 5, Shrink: 3}},
		{1, 5, 2, measure.Sum{Width: 22}},
		{3, 5, 4, measure.Sum{Width: 10}},
		{3, 7, 4, measure.Sum{Width: 12}},
		{3, 10, 4, measure.Sum{Width: 32, Stretch: 10, Shrink: 6, Fills: 1}},
		{7, 10, 9, measure.Sum{Fills: 1}},
		{10, 14, 12, measure.Sum{Width: 6, Fills: 1}},
		{-1, 14, 0, measure.Sum{Width: 82, Stretch: 20, Shrink: 12, Fills: 2}},
	} {
		if p.Start(c.a) != c.start || p.Line(c.a, c.b) != c.want {
			t.Errorf("Start(%d): %d, Line up to %d: %v, not %d, %v", c.a, p.Start(c.a), c.b, p.Line(c.a, c.b), c.start, c.want)
		}
	}
}

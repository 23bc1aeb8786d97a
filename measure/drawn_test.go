package measure_test

import (
	"math/rand/v2"
	"strings"
	"testing"

	"reglet/api"
	"reglet/measure"
)

// P8.1, P8.2: drawn items against the sentences.
func TestDrawnItems(t *testing.T) {
	from := rand.New(rand.NewPCG(8, 2))
	for k := range 600 {
		list := drawnItems(from, 16, []int{0, 1, 40, mostMeasure}[k%4])
		holdsPara(t, list)
		holdsLines(t, list)
		if t.Failed() {
			return
		}
	}
}

// P8.3: drawn sums and widths against the sentence.
func TestDrawnSet(t *testing.T) {
	from := rand.New(rand.NewPCG(8, 3))
	for range 100000 {
		most := 1 << (1 + from.IntN(57))
		s := measure.Sum{Width: from.IntN(2*most+1) - most, Stretch: from.IntN(most + 1), Shrink: from.IntN(most + 1)}
		if from.IntN(5) == 0 {
			s.Fills = from.IntN(3)
		}
		width := from.IntN(2*most+1) - most
		if got, want := measure.Set(s, width), set(s, width); got != want {
			t.Fatalf("Set(%v, %d): %v, not %v", s, width, got, want)
		}
	}
}

// P8.5: drawn costs against the sentence, of settings that may be and of any numbers.
func TestDrawnCost(t *testing.T) {
	from := rand.New(rand.NewPCG(8, 5))
	for k := range 100000 {
		s := api.Settings{Line: from.IntN(10001), Adjacent: from.IntN(1 << 20), Double: from.IntN(1 << 20), Last: from.IntN(1 << 20), Orphans: 1, Widows: 1}
		f := api.Fit{Bad: from.IntN(10001), Class: from.IntN(4), Over: from.IntN(20) == 0}
		end := api.Item{Kind: api.Penalty, Cost: from.IntN(20001) - 10000, Flag: from.IntN(2) == 0}
		ahead := measure.Ahead{Class: from.IntN(5) - 1, Flag: from.IntN(2) == 0}
		if k%2 == 0 {
			for _, n := range []*int{&s.Line, &s.Adjacent, &s.Double, &s.Last, &f.Bad, &f.Class, &end.Cost, &ahead.Class} {
				if from.IntN(3) == 0 {
					*n = drawnNumber(from)
				}
			}
		}
		last := from.IntN(2) == 0
		if got, want := measure.Cost(s, f, end, ahead, last), cost(s, f, end, ahead, last); got != want {
			t.Fatalf("Cost(%v, %v, %v, %v, %v): %d, not %d", s, f, end, ahead, last, got, want)
		}
	}
}

// holdsBounds is P8.6, for every place at which a line begins, and for all behind it.
func holdsBounds(t *testing.T, list []api.Item) {
	t.Helper()
	p := made(t, list)
	for a := -1; a < len(list); a++ {
		low, high := 0, 0
		for b := range list {
			nextLow, nextHigh, _ := p.Bounds(a, b)
			if nextLow < low || nextHigh < high {
				t.Fatalf("Bounds(%d, %d) of %v: %d, %d behind %d, %d", a, b, list, nextLow, nextHigh, low, high)
			}
			low, high = nextLow, nextHigh
			for _, width := range []int{low - 1, low - 2, 0, -1, 1 - low, low / 2} {
				if width < low && !p.Fit(a, b, width).Over {
					t.Fatalf("Fit(%d, %d, %d) of %v: %v, but no narrower than %d", a, b, width, list, p.Fit(a, b, width), low)
				}
			}
			holdsWidest(t, p, a, b)
		}
	}
}

// holdsWidest: what the second of Bounds is for: for a width above it a line without Fills is as bad as may be.
func holdsWidest(t *testing.T, p *measure.Para, a, b int) {
	t.Helper()
	_, high, fills := p.Bounds(a, b)
	if f := p.Fit(a, b, high+1); !fills && f.Bad != 10000 {
		t.Fatalf("Fit(%d, %d, %d): %v", a, b, high+1, f)
	}
}

// P8.6: made by hand, built and drawn.
func TestBoundsFollow(t *testing.T) {
	holdsBounds(t, []api.Item{forced()})
	holdsBounds(t, mixed())
	for _, text := range []string{"a", "\n", "ab cd-ef\u00adgh\u200bi\u2060 \u2028 \tj\n", strings.Repeat("one two-three fo\u00adur  ", 6)} {
		holdsBounds(t, built(t, text))
	}
	from := rand.New(rand.NewPCG(8, 6))
	for k := range 600 {
		holdsBounds(t, drawnItems(from, 24, []int{0, 1, 40, mostMeasure}[k%4]))
	}
}

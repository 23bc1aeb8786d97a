package measure_test

import (
	"math"
	"testing"

	"reglet/api"
	"reglet/measure"
	"reglet/scaled"
)

// holdsSet asks Set for an answer, and the sentence for the same one.
func holdsSet(t *testing.T, s measure.Sum, width int, want api.Fit) {
	t.Helper()
	if got := measure.Set(s, width); got != want {
		t.Errorf("Set(%v, %d): %v, not %v", s, width, got, want)
	}
	if model := set(s, width); model != want {
		t.Errorf("the sentence says of %v, %d: %v, not %v", s, width, model, want)
	}
}

// The chapter's examples.
func TestExamples(t *testing.T) {
	s := measure.Sum{Width: 90, Stretch: 20}
	holdsSet(t, s, 100, api.Fit{Num: 1, Den: 2, Bad: 12, Class: api.Decent})
	holdsSet(t, s, 120, api.Fit{Num: 3, Den: 2, Bad: 337, Class: api.VeryLoose})
}

// P8.3: just as wide, by 1 wider and narrower, with Fills and without.
func TestSetNear(t *testing.T) {
	just := api.Fit{Den: 1, Class: api.Decent}
	worst := api.Fit{Den: 1, Bad: 10000, Class: api.VeryLoose}
	for _, c := range []struct {
		s     measure.Sum
		width int
		want  api.Fit
	}{
		{measure.Sum{}, 0, just}, {measure.Sum{Fills: 1}, 0, just}, {measure.Sum{Width: 90}, 90, just}, {measure.Sum{Width: 90, Stretch: 5, Shrink: 5}, 90, just}, {measure.Sum{Width: -5}, -5, just},
		// Fills take what is above 0, and nothing else.
		{measure.Sum{Width: 90, Fills: 1}, 91, just}, {measure.Sum{Width: 90, Fills: 7, Stretch: 3}, 1000, just},
		{measure.Sum{Width: 90, Fills: 2}, 89, api.Fit{Den: 1, Bad: 10000, Over: true}},
		{measure.Sum{Width: 90, Fills: 2, Shrink: 2}, 89, api.Fit{Num: -1, Den: 2, Bad: 12, Class: api.Decent}},
		// By 1 narrower than the width.
		{measure.Sum{Width: 89}, 90, worst}, {measure.Sum{Width: 89, Shrink: 9}, 90, worst},
		{measure.Sum{Width: 89, Stretch: 1}, 90, api.Fit{Num: 1, Den: 1, Bad: 100, Class: api.VeryLoose}},
		{measure.Sum{Width: 89, Stretch: 2}, 90, api.Fit{Num: 1, Den: 2, Bad: 12, Class: api.Decent}},
		{measure.Sum{Width: 89, Stretch: 9}, 90, api.Fit{Num: 1, Den: 9, Bad: 0, Class: api.Decent}},
		// By 1 wider than it.
		{measure.Sum{Width: 91}, 90, api.Fit{Den: 1, Bad: 10000, Over: true}}, {measure.Sum{Width: 91, Stretch: 9}, 90, api.Fit{Den: 1, Bad: 10000, Over: true}},
		{measure.Sum{Width: 91, Shrink: 1}, 90, api.Fit{Num: -1, Den: 1, Bad: 100, Class: api.Tight}},
		{measure.Sum{Width: 91, Shrink: 2}, 90, api.Fit{Num: -1, Den: 2, Bad: 12, Class: api.Decent}},
		// A Shrink that just does, one that just doesn't, and one far from it.
		{measure.Sum{Width: 100, Shrink: 10}, 90, api.Fit{Num: -1, Den: 1, Bad: 100, Class: api.Tight}},
		{measure.Sum{Width: 100, Shrink: 9}, 90, api.Fit{Num: -1, Den: 1, Bad: 10000, Class: api.Tight, Over: true}},
		{measure.Sum{Width: 100, Shrink: 1}, 90, api.Fit{Num: -1, Den: 1, Bad: 10000, Class: api.Tight, Over: true}},
		{measure.Sum{Width: 100, Shrink: 11}, 90, api.Fit{Num: -10, Den: 11, Bad: 75, Class: api.Tight}},
		// Widths that no page has are taken as they come.
		{measure.Sum{Width: 0, Shrink: 4}, -2, api.Fit{Num: -1, Den: 2, Bad: 12, Class: api.Decent}},
		{measure.Sum{Width: -8, Stretch: 4}, -6, api.Fit{Num: 1, Den: 2, Bad: 12, Class: api.Decent}},
		{measure.Sum{Width: 90, Fills: 0}, -1 << 57, api.Fit{Den: 1, Bad: 10000, Over: true}},
	} {
		holdsSet(t, c.s, c.width, c.want)
	}
}

// P8.3: badness at and beside 12 and 99, and at 10000.
func TestSetClasses(t *testing.T) {
	for _, c := range []struct {
		short, by int
		bad       int
		class     int
	}{
		{499, 1000, 12, api.Decent}, {506, 1000, 12, api.Decent}, {507, 1000, 13, api.Loose}, {508, 1000, 13, api.Loose},
		{994, 1000, 98, api.Loose}, {997, 1000, 99, api.Loose}, {999, 1000, 99, api.Loose}, {1000, 1000, 100, api.VeryLoose}, {1001, 1000, 100, api.VeryLoose}, {1004, 1000, 101, api.VeryLoose},
		{4641, 1000, 9996, api.VeryLoose}, {4642, 1000, 10000, api.VeryLoose}, {5000, 1000, 10000, api.VeryLoose}, {1 << 50, 1000, 10000, api.VeryLoose},
		{1, 1 << 50, 0, api.Decent},
	} {
		f := measure.Set(measure.Sum{Width: 7000, Stretch: c.by, Shrink: 3}, 7000+c.short)
		if f.Bad != c.bad || f.Class != c.class || f.Over || f != set(measure.Sum{Width: 7000, Stretch: c.by}, 7000+c.short) {
			t.Errorf("Set of %d by %d: %v", c.short, c.by, f)
		}
		want := api.Decent
		if c.bad > 12 {
			want = api.Tight
		}
		f = measure.Set(measure.Sum{Width: 7000, Stretch: 3, Shrink: c.by, Fills: 2}, 7000-c.short)
		switch {
		case c.short > c.by && f != api.Fit{Num: -1, Den: 1, Bad: 10000, Class: api.Tight, Over: true}:
			t.Errorf("Set of %d above %d: %v", c.short, c.by, f)
		case c.short <= c.by && (f.Bad != c.bad || f.Class != want || f.Over || f != set(measure.Sum{Width: 7000, Shrink: c.by}, 7000-c.short)):
			t.Errorf("Set of %d less by %d: %v", c.short, c.by, f)
		}
	}
}

// P8.3: all small numbers against the sentence; Num by Den is in lowest terms, Den above 0.
func TestSetSmall(t *testing.T) {
	for width := -3; width <= 60; width++ {
		for by := range 40 {
			for fills := range 2 {
				for _, s := range []measure.Sum{{Width: 20, Stretch: by, Shrink: 5, Fills: fills}, {Width: 20, Stretch: 7, Shrink: by, Fills: fills}} {
					f := measure.Set(s, width)
					if f != set(s, width) {
						t.Fatalf("Set(%v, %d): %v, not %v", s, width, f, set(s, width))
					}
					if f.Den < 1 || scaled.Gcd(f.Num, f.Den) != 1 {
						t.Fatalf("Set(%v, %d): %d by %d", s, width, f.Num, f.Den)
					}
				}
			}
		}
	}
}

// P8.3: numbers as great and as small as are promised.
func TestSetGreat(t *testing.T) {
	const most = 1 << 57
	numbers := []int{-most, -most + 1, -1, 0, 1, 3, 1 << 54, most - 2, most - 1, most}
	for _, width := range numbers {
		for _, w := range numbers {
			for _, stretch := range numbers[3:] {
				for _, shrink := range numbers[3:] {
					for _, fills := range []int{0, 1, most} {
						s := measure.Sum{Width: w, Stretch: stretch, Shrink: shrink, Fills: fills}
						if f := measure.Set(s, width); f != set(s, width) {
							t.Fatalf("Set(%v, %d): %v, not %v", s, width, f, set(s, width))
						}
					}
				}
			}
		}
	}
	holdsSet(t, measure.Sum{Width: -most, Stretch: most}, most, api.Fit{Num: 2, Den: 1, Bad: 800, Class: api.VeryLoose})
	holdsSet(t, measure.Sum{Width: most, Shrink: most}, -most, api.Fit{Num: -1, Den: 1, Bad: 10000, Over: true})
	holdsSet(t, measure.Sum{Width: most, Shrink: most}, 0, api.Fit{Num: -1, Den: 1, Bad: 100, Class: api.Tight})
}

// P1: numbers beyond those, and such as can't be, end.
func TestSetRaw(t *testing.T) {
	numbers := []int{math.MinInt, math.MinInt + 1, -1 << 60, -1, 0, 1, 1 << 60, math.MaxInt - 1, math.MaxInt}
	for _, width := range numbers {
		for _, w := range numbers {
			for _, stretch := range numbers {
				for _, shrink := range numbers {
					for _, fills := range numbers {
						measure.Set(measure.Sum{Width: w, Stretch: stretch, Shrink: shrink, Fills: fills}, width)
					}
				}
			}
		}
	}
}

// P8.3: Fit is Set of Line, for breaks and for other numbers.
func TestFit(t *testing.T) {
	for _, list := range [][]api.Item{mixed(), built(t, "one two-three fo\u00adur \u2028 five\n"), {forced()}} {
		p := made(t, list)
		for a := -2; a <= len(list)+1; a++ {
			for b := -2; b <= len(list)+1; b++ {
				s, _ := line(list, a, b)
				for width := -2; width < 150; width++ {
					if got := p.Fit(a, b, width); got != set(s, width) || got != measure.Set(p.Line(a, b), width) {
						t.Fatalf("Fit(%d, %d, %d) of %v: %v, not %v", a, b, width, list, got, set(s, width))
					}
				}
			}
		}
	}
	p := made(t, mixed())
	for _, c := range []struct {
		a, b, width int
		want        api.Fit
	}{
		{-1, 2, 39, api.Fit{Den: 1, Class: api.Decent}},
		{-1, 2, 41, api.Fit{Num: 1, Den: 2, Bad: 12, Class: api.Decent}},
		{-1, 6, 80, api.Fit{Num: -7, Den: 8, Bad: 66, Class: api.Tight}}, // with the 7 that the break adds
		{-1, 6, 78, api.Fit{Num: -1, Den: 1, Bad: 10000, Class: api.Tight, Over: true}},
		{2, 6, 26, api.Fit{Den: 1, Bad: 10000, Class: api.Tight, Over: true}},
		{17, 23, 99, api.Fit{Den: 1, Class: api.Decent}},
		{-1, 24, 9, api.Fit{Den: 1, Bad: 10000, Class: api.VeryLoose}}, // no such item: nothing in so much
		{-1, -1, 0, api.Fit{Den: 1, Class: api.Decent}},
	} {
		if got := p.Fit(c.a, c.b, c.width); got != c.want {
			t.Errorf("Fit(%d, %d, %d): %v, not %v", c.a, c.b, c.width, got, c.want)
		}
	}
}

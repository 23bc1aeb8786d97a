package metrics_test

import (
	"math/rand/v2"
	"slices"
	"testing"

	"reglet/api"
	"reglet/metrics"
)

// good: a style with no fault, and no two measures alike.
func good() api.Style {
	return api.Style{Height: 12, Space: 9, Stretch: 4, Shrink: 3, Hyphen: 5, Other: 7, Keep: true, Ranges: []api.Range{
		{Lo: 'a', Hi: 'f', Width: 21}, {Lo: 'g', Hi: 'g', Width: 22}, {Lo: 'k', Hi: 'z', Width: 23}, {Lo: 0xE0, Hi: 0xFF, Width: 24},
		{Lo: 0x2000, Hi: 0x2FFF, Width: 25}, {Lo: 0x1F600, Hi: 0x1F64F, Width: 26},
	}}
}

// three: styles of several ranges, of one, and of none.
func three() []api.Style {
	return []api.Style{
		good(),
		{Height: 30, Space: 11, Stretch: 6, Shrink: 2, Hyphen: 8, Other: 13, Ranges: []api.Range{{Lo: 0, Hi: 0x10FFFF, Width: 17}}},
		{Height: 20, Space: 10, Stretch: 5, Shrink: 10, Hyphen: 1, Other: 14, Keep: true},
	}
}

// changed: a good style with one thing done to it.
func changed(change func(*api.Style)) api.Style {
	s := good()
	change(&s)
	return s
}

// made: a table of styles that have no fault.
func made(t testing.TB, styles []api.Style) *metrics.Table {
	t.Helper()
	m, e, at := metrics.New(styles)
	if m == nil || e != api.OK || at != 0 {
		t.Fatalf("New(%v) = %v, %d, %d", styles, m, e, at)
	}
	return m
}

// copied: styles that share nothing with others.
func copied(styles []api.Style) []api.Style {
	list := slices.Clone(styles)
	for k := range list {
		list[k].Ranges = slices.Clone(list[k].Ranges)
	}
	return list
}

// alike: are two styles the same, field by field?
func alike(a, b api.Style) bool {
	return bare(a) == bare(b) && slices.Equal(a.Ranges, b.Ranges)
}

// bare: a style without its ranges, as numbers.
func bare(s api.Style) [7]int {
	keep := 0
	if s.Keep {
		keep = 1
	}
	return [7]int{s.Height, s.Space, s.Stretch, s.Shrink, s.Hyphen, s.Other, keep}
}

// firstFault is P4.1's sentence: what New answers beside the table.
func firstFault(styles []api.Style) (api.Errno, int) {
	if len(styles) < 1 || len(styles) > 32 {
		return api.ErrStyles, 0
	}
	for k, s := range styles {
		for _, e := range faults(s) {
			return e, k
		}
	}
	return api.OK, 0
}

// faults: all of a style's, in the sentence's order.
func faults(s api.Style) []api.Errno {
	var list []api.Errno
	ask := func(holds bool, e api.Errno) {
		if !holds {
			list = append(list, e)
		}
	}
	within := func(n, least int) bool { return least <= n && n <= 1048576 }
	ask(within(s.Height, 1), api.ErrWidth)
	for _, n := range []int{s.Space, s.Stretch, s.Shrink, s.Hyphen, s.Other} {
		ask(within(n, 0), api.ErrWidth)
	}
	ask(s.Shrink <= s.Space, api.ErrWidth)
	ask(len(s.Ranges) <= 64, api.ErrRanges)
	for k, r := range s.Ranges {
		if k == 0 {
			ask(r.Lo >= 0, api.ErrRanges)
		} else {
			ask(r.Lo > s.Ranges[k-1].Hi, api.ErrRanges)
		}
		ask(r.Hi >= r.Lo, api.ErrRanges)
		ask(r.Hi <= 1114111, api.ErrRanges)
		ask(within(r.Width, 0), api.ErrWidth)
	}
	return list
}

// wide is P4.3's sentence on Width, of a style that there is.
func wide(s api.Style, r rune) int {
	switch r {
	case 0x20, 0x9, 0xA0, 0x202F:
		return s.Space
	case 0xAD, 0x200B, 0x2060, 0xFEFF, 0x2028, 0xA:
		return 0
	}
	for _, x := range s.Ranges {
		if x.Lo <= int(r) && int(r) <= x.Hi {
			return x.Width
		}
	}
	return s.Other
}

// drawn: styles with no fault, of as many ranges as come, the same ones for the same source.
func drawn(from *rand.Rand, many int) []api.Style {
	list := make([]api.Style, many)
	for k := range list {
		space := from.IntN(1000)
		list[k] = api.Style{Height: 1 + from.IntN(100), Space: space, Stretch: from.IntN(50), Shrink: from.IntN(space + 1), Hyphen: from.IntN(50), Other: from.IntN(50), Keep: from.IntN(2) == 0, Ranges: drawnRanges(from)}
	}
	return list
}

// drawnRanges: ranges with no fault: of one rune and of many, side by side and with gaps between.
func drawnRanges(from *rand.Rand) []api.Range {
	var list []api.Range
	most, next := from.IntN(65), from.IntN(3)
	for len(list) < most {
		lo := next + from.IntN(2)*from.IntN(1<<(1+from.IntN(15)))
		hi := lo + from.IntN(2)*from.IntN(1<<(1+from.IntN(15)))
		if hi > 0x10FFFF {
			break
		}
		list = append(list, api.Range{Lo: lo, Hi: hi, Width: from.IntN(1 << 20)})
		next = hi + 1
	}
	return list
}

package measure_test

import (
	"math"
	"slices"
	"testing"

	"reglet/api"
	"reglet/items"
	"reglet/measure"
)

// P8.1: items that aren't right make no Para.
func TestNewRefused(t *testing.T) {
	for name, list := range map[string][]api.Item{
		"nil":             nil,
		"none":            {},
		"not forced":      {box(1)},
		"never at last":   {box(1), penalty(0, 10000)},
		"behind forced":   {forced(), box(1)},
		"no kind":         {{Kind: 4}, forced()},
		"zero item":       {{}, forced()},
		"below 0":         {box(-1), forced()},
		"too wide":        {box(mostMeasure + 1), forced()},
		"shrinks below 0": {glue(2, 0, 3), forced()},
		"too dear":        {penalty(0, 10001), forced()},
		"too cheap":       {penalty(0, -10001)},
		"bytes from 1":    {{Kind: api.Penalty, Cost: -10000, From: 1, To: 1}},
		"a gap of bytes":  {{Kind: api.Box, To: 1}, {Kind: api.Penalty, Cost: -10000, From: 2, To: 2}},
		"too many bytes":  {{Kind: api.Penalty, Cost: -10000, To: api.MaxText + 1}},
		"too many":        slices.Repeat([]api.Item{forced()}, mostItems+1),
	} {
		p, e := measure.New(list)
		if p != nil || e != api.ErrItems || e != items.Right(list) {
			t.Errorf("New of %s: %v, %d", name, p != nil, e)
		}
	}
}

// holdsPara asks a Para for everything that P8.1 tells.
func holdsPara(t *testing.T, list []api.Item) {
	t.Helper()
	p := made(t, list)
	if n := p.Items(); n != len(list) {
		t.Errorf("Items of %v: %d", list, n)
	}
	for k, x := range list {
		if got := p.Item(k); got != x {
			t.Errorf("Item(%d) of %v: %v", k, list, got)
		}
	}
	for _, k := range []int{-1, -2, math.MinInt, len(list), len(list) + 1, math.MaxInt} {
		if got := p.Item(k); got != (api.Item{}) {
			t.Errorf("Item(%d) of %v: %v", k, list, got)
		}
	}
	want := ends(list)
	if got := p.Legal(); !slices.Equal(got, want) || p.Ends() != len(want) {
		t.Errorf("Legal of %v: %v, Ends %d, not %v", list, got, p.Ends(), want)
	}
	for n, k := range want {
		if got := p.End(n); got != k {
			t.Errorf("End(%d) of %v: %d, not %d", n, list, got, k)
		}
	}
	for _, n := range []int{-1, -2, math.MinInt, len(want), len(want) + 1, len(list) + 1, math.MaxInt} {
		if got := p.End(n); got != -1 {
			t.Errorf("End(%d) of %v: %d", n, list, got)
		}
	}
}

// P8.1: one item, items made by hand, and as layer 7 builds them; one break, and many.
func TestPara(t *testing.T) {
	holdsPara(t, []api.Item{forced()})
	holdsPara(t, []api.Item{{Kind: api.Penalty, Width: mostMeasure, Cost: -10000, Flag: true, To: api.MaxText}})
	holdsPara(t, []api.Item{forced(), forced(), forced()})
	holdsPara(t, []api.Item{box(3), box(4), fill(), penalty(0, 10000), forced()})
	holdsPara(t, mixed())
	for _, text := range []string{"a", "\n", "ab cd-ef\u00adgh\u200bi\u2060 \u2028 \tj\n", " a  b", "\u2028\u2028", "one two three four five six seven"} {
		holdsPara(t, built(t, text))
	}
}

// P8.1: which places a paragraph made by hand has, written out.
func TestLegalPlaces(t *testing.T) {
	p := made(t, mixed())
	want := []int{2, 6, 10, 11, 14, 16, 17, 19, 23}
	if got := p.Legal(); !slices.Equal(got, want) || p.Ends() != 9 || p.End(0) != 2 || p.End(8) != 23 || p.End(9) != -1 || p.End(-1) != -1 {
		t.Errorf("Legal: %v, Ends: %d", got, p.Ends())
	}
	one := made(t, built(t, "abc"))
	if got := one.Legal(); !slices.Equal(got, []int{2}) || one.Ends() != 1 || one.End(0) != 2 || one.End(1) != -1 {
		t.Errorf("Legal of one word: %v, Ends: %d", got, one.Ends())
	}
}

// P8.1, P8.2: as many items as there may be, as wide as may be.
func TestMostItems(t *testing.T) {
	list := slices.Repeat([]api.Item{box(mostMeasure), glue(mostMeasure, mostMeasure, mostMeasure), penalty(mostMeasure, 0), penalty(mostMeasure, 10000)}, mostItems/4)
	last := mostItems - 1
	list[last].Cost = -10000
	p := made(t, list)
	const parts = mostItems / 4
	if p.Items() != mostItems || p.Ends() != 2*parts+1 || p.End(2*parts) != last || p.End(2*parts-1) != last-1 || p.Item(last) != list[last] {
		t.Errorf("Items %d, Ends %d, the last one at %d", p.Items(), p.Ends(), p.End(2*parts))
	}
	want := measure.Sum{Width: (2*parts + 1) * mostMeasure, Stretch: parts * mostMeasure, Shrink: parts * mostMeasure}
	if s := p.Line(-1, last); s != want {
		t.Errorf("Line of all: %v, not %v", s, want)
	}
	low, high, fills := p.Bounds(-1, last)
	if low != parts*mostMeasure || high != (2*parts+5*parts+1)*mostMeasure || fills {
		t.Errorf("Bounds of all: %d, %d, %v", low, high, fills)
	}
	filled := slices.Repeat([]api.Item{fill()}, mostItems)
	filled[last] = forced()
	if s := made(t, filled).Line(-1, last); s != (measure.Sum{Fills: last}) {
		t.Errorf("Line of many Fills: %v", s)
	}
	boxes := slices.Repeat([]api.Item{box(mostMeasure)}, mostItems)
	boxes[last] = penalty(mostMeasure, -10000)
	if s := made(t, boxes).Line(-1, last); s != (measure.Sum{Width: 1 << 54}) {
		t.Errorf("Line of many Boxes: %v", s)
	}
}

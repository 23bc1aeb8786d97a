package items_test

import (
	"math"
	"testing"

	"reglet/api"
	"reglet/items"
)

// P7.3: each kind, and what is none, at every Cost around Always.
func TestForced(t *testing.T) {
	for kind := -1; kind < 5; kind++ {
		for _, cost := range []int{math.MinInt, -10001, -10000, -9999, -1, 0, 50, 9999, 10000, 10001, math.MaxInt} {
			want := kind == 3 && cost <= -10000
			if yes := items.Forced(api.Item{Kind: kind, Cost: cost}); yes != want {
				t.Errorf("Forced of the kind %d at %d: %v", kind, cost, yes)
			}
		}
	}
	// What else an item has doesn't count.
	if !items.Forced(api.Item{Kind: 3, Width: -1, Stretch: 2, Shrink: 3, Fill: true, Cost: -10000, Flag: true, From: 9, To: 4}) {
		t.Error("a Penalty of -10000 with other fields isn't Forced")
	}
}

// P7.3: Penalties, wherever they stand.
func TestLegalPenalty(t *testing.T) {
	for _, cost := range []int{math.MinInt, -10001, -10000, 0, 50, 9999, 10000, 10001, math.MaxInt} {
		for _, flag := range []bool{false, true} {
			x := api.Item{Kind: api.Penalty, Cost: cost, Flag: flag, Width: 7}
			list := []api.Item{x, {Kind: api.Glue}, x, {Kind: api.Box}, x, x}
			for _, k := range []int{0, 2, 4, 5} {
				if yes := items.Legal(list, k); yes != (cost < 10000) {
					t.Errorf("Legal of a Penalty of %d at %d: %v", cost, k, yes)
				}
			}
		}
	}
}

// P7.3: Glue, with and without Fill, behind each kind, and behind nothing.
func TestLegalGlue(t *testing.T) {
	for _, fill := range []bool{false, true} {
		x := api.Item{Kind: api.Glue, Fill: fill, Width: 3, Cost: 10000}
		if items.Legal([]api.Item{x}, 0) || items.Legal([]api.Item{x, {Kind: api.Box}}, 0) {
			t.Errorf("Legal of Glue at the beginning, Fill %v", fill)
		}
		for _, ahead := range []api.Item{{Kind: api.Box}, {Kind: api.Glue}, {Kind: api.Glue, Fill: true}, {Kind: api.Penalty}, {Kind: api.Penalty, Cost: -10000}, {Kind: 0}, {Kind: 4}, {Kind: -1}} {
			// A Box further ahead doesn't count, nor does one behind.
			list := []api.Item{{Kind: api.Box}, ahead, x, {Kind: api.Box}}
			if yes := items.Legal(list, 2); yes != (!fill && ahead.Kind == api.Box) {
				t.Errorf("Legal of Glue behind %v, Fill %v: %v", ahead, fill, yes)
			}
		}
	}
}

// P7.3: no item, and items of other kinds.
func TestLegalNone(t *testing.T) {
	list := []api.Item{{Kind: api.Penalty}, {Kind: api.Box}, {Kind: api.Glue}, {Kind: api.Penalty}}
	for _, k := range []int{-1, -2, math.MinInt, 4, 5, math.MaxInt} {
		if items.Legal(list, k) || items.Legal(list[:0], k) || items.Legal(nil, k) {
			t.Errorf("Legal at %d, where there is none", k)
		}
	}
	if items.Legal(nil, 0) || items.Legal(list[:0], 0) || items.Legal(list[:2], 2) {
		t.Error("Legal at a list's length")
	}
	for _, kind := range []int{-1, 0, 1, 4, math.MinInt, math.MaxInt} {
		for _, x := range []api.Item{{Kind: kind}, {Kind: kind, Cost: -10000}, {Kind: kind, Fill: true, Flag: true}} {
			if items.Legal([]api.Item{{Kind: api.Box}, x}, 1) {
				t.Errorf("Legal of %v", x)
			}
		}
	}
}

// P7.3: where the lines of what Build tells may end, and must.
func TestLegalOfBuild(t *testing.T) {
	m := made(t, styles())
	const text = " ab  c-d\u00ade\u200bf\u2060 g \u2028 h\n"
	list, e := items.Build(m, text, whole(text, 0))
	if e != api.OK {
		t.Fatal(e)
	}
	// 0 Glue, 1 Box, 2 Glue, 3 Glue, 4 Box, 5 Penalty, 6 Box, 7 Soft, 8 Box, 9 Gap, 10 Box, 11 Joiner, 12 Glue, 13 Box, 14 Glue, 15 Fill, 16 NewLine, 17 Glue, 18 Box, 19 Fill, 20 NewPara
	legal := map[int]bool{2: true, 5: true, 7: true, 9: true, 14: true, 16: true, 20: true}
	for k := -1; k < 23; k++ {
		if items.Legal(list, k) != legal[k] {
			t.Errorf("Legal at %d isn't %v", k, legal[k])
		}
	}
	for k, x := range list {
		if items.Forced(x) != (k == 16 || k == 20) {
			t.Errorf("Forced at %d: %v", k, items.Forced(x))
		}
	}
	if len(list) != 21 {
		t.Errorf("%d items", len(list))
	}
}

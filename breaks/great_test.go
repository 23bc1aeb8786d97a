package breaks_test

import (
	"slices"
	"strings"
	"testing"

	"reglet/api"
)

// P1, P9.2: paragraphs of as many items as may be, and of a text as long as may be. Where each break has all others behind it to end at, they aren't gone through one by one.
func TestGreat(t *testing.T) {
	many := func(x api.Item) []api.Item {
		return append(slices.Repeat([]api.Item{x}, mostItems-1), forced())
	}
	numbers := func(n int) []int {
		list := make([]int, n)
		for k := range list {
			list[k] = k
		}
		return list
	}
	one := []int{mostItems - 1}
	dearest := api.Settings{Tolerance: 10000, Line: 10000, Adjacent: 1 << 20, Double: 1 << 20, Last: 1 << 20, Orphans: 1, Widows: 1}
	for _, c := range []struct {
		name  string
		list  []api.Item
		width int
		set   api.Settings
		want  api.Breaking
	}{
		{"empty lines", many(penalty(0, 0)), 1, usual(200), atNeed(worst, one...)},
		{"empty lines, any", many(flagged(penalty(0, 0))), 1 << 30, usual(10000), way(worst, one...)},
		{"Boxes that take no room", many(box(0)), 1, usual(200), atNeed(worst, one...)},
		{"all Forced", many(forced()), 1, usual(200), atNeed(mostItems*worst, numbers(mostItems)...)},
		// No paragraph's lines cost more, and yet they cost less than Awful.
		{"all Forced, as dear as may be", many(flagged(forced())), 1, dearest, way(mostItems*20000*20000+(mostItems-2)<<20+1<<20, numbers(mostItems)...)},
	} {
		if got := (task{made(t, c.list), c.width, c.set}).broken(t); !alike(got, c.want) {
			t.Errorf("%s: %d breaks, %d, %v, not %d, %d, %v", c.name, len(got.Breaks), got.Total, got.Emergency, len(c.want.Breaks), c.want.Total, c.want.Emergency)
		}
	}
}

// P9.2: a text as long as may be, for lines that are narrow, usual, and wider than all of it.
func TestGreatText(t *testing.T) {
	list := built(t, strings.Repeat("a b-c de ", api.MaxText/9))
	for _, width := range []int{1, 20, 100, 500, 1 << 20, 1 << 30} {
		for _, tolerance := range []int{200, 10000} {
			k := task{made(t, list), width, usual(tolerance)}
			b := k.broken(t)
			if cost := k.cost(b.Breaks); b.Total != cost || b.Breaks[len(b.Breaks)-1] != k.last() || b.Emergency && tolerance == 10000 && cost < awful {
				t.Errorf("of a width of %d: %d, not %d, up to %d", width, b.Total, cost, b.Breaks[len(b.Breaks)-1])
			}
			if width >= 1<<20 && !alike(b, way(100, k.last())) {
				t.Errorf("of a width of %d: %d breaks, %d", width, len(b.Breaks), b.Total)
			}
		}
	}
}

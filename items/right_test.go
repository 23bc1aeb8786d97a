package items_test

import (
	"math"
	"slices"
	"testing"

	"reglet/api"
	"reglet/items"
)

// most is the greatest measure of an item.
const most = 1 << 36

// holdsRight asks Right for an answer, and the sentence for the same one.
func holdsRight(t *testing.T, list []api.Item, right bool) {
	t.Helper()
	want := api.OK
	if !right {
		want = api.ErrItems
	}
	if e := items.Right(list); e != want {
		t.Errorf("Right(%v) = %d, not %d", brief(list), e, want)
	}
	if faulty(list) == right {
		t.Errorf("the sentence says otherwise of %v", brief(list))
	}
}

// brief: the first items of a list.
func brief(list []api.Item) []api.Item { return list[:min(len(list), 8)] }

// ending: an item that a list may end with.
func ending() api.Item { return api.Item{Kind: api.Penalty, Cost: -10000} }

// usual: a list that is right, with an item of each kind, Glue of both; 11 bytes.
func usual() []api.Item {
	return []api.Item{
		{Kind: api.Box, Width: 5, From: 0, To: 2}, {Kind: api.Glue, Width: 4, Stretch: 9, Shrink: 3, From: 2, To: 3}, {Kind: api.Penalty, Width: 6, Cost: 50, Flag: true, From: 3, To: 5},
		{Kind: api.Box, Width: 5, From: 5, To: 10}, {Kind: api.Glue, Fill: true, From: 10, To: 10}, {Kind: api.Penalty, Cost: -10000, From: 10, To: 11},
	}
}

// P7.4: how many items, and the last one.
func TestRightCount(t *testing.T) {
	holdsRight(t, nil, false)
	holdsRight(t, []api.Item{}, false)
	holdsRight(t, []api.Item{ending()}, true)
	holdsRight(t, usual(), true)
	for _, n := range []int{2, 65536, 262143, 262144, 262145, 262146, 300000} {
		list := make([]api.Item, n)
		for k := range list {
			list[k] = ending()
		}
		holdsRight(t, list, n <= 262144)
	}
	for k := range usual() {
		holdsRight(t, usual()[:k+1], k == 5)
	}
	for _, cost := range []int{-10000, -9999, -10001, 0, 10000, math.MinInt} {
		holdsRight(t, []api.Item{{Kind: api.Box}, {Kind: api.Penalty, Cost: cost}}, cost == -10000)
	}
	// Forced ones may stand further ahead, too.
	holdsRight(t, []api.Item{ending(), {Kind: api.Box}, ending(), ending()}, true)
	holdsRight(t, []api.Item{ending(), {Kind: api.Glue, Fill: true}}, false)
}

// P7.4: the items' bytes.
func TestRightBytes(t *testing.T) {
	for k := range usual() {
		for _, by := range []int{-12, -2, -1, 1, 2, math.MinInt / 2, math.MaxInt / 2} {
			// Where it begins alone, where it ends alone, and both: a gap, or bytes had twice.
			list := usual()
			list[k].From += by
			holdsRight(t, list, false)
			list = usual()
			list[k].To += by
			holdsRight(t, list, k == len(list)-1 && (by == 1 || by == 2 || by == -1))
			list = usual()
			list[k].From += by
			list[k].To += by
			holdsRight(t, list, false)
		}
	}
	// All of them moved: they don't begin at 0.
	for _, by := range []int{-1, 1} {
		list := usual()
		for k := range list {
			list[k].From += by
			list[k].To += by
		}
		holdsRight(t, list, false)
	}
	// An item that ends ahead of its beginning, also where those behind go on from there.
	holdsRight(t, []api.Item{{Kind: api.Box, To: 3}, {Kind: api.Box, From: 3, To: 2}, {Kind: api.Penalty, Cost: -10000, From: 2, To: 4}}, false)
	holdsRight(t, []api.Item{{Kind: api.Penalty, Cost: -10000, To: -1}}, false)
	// Up to exactly MaxText, and one more: the last one, and one ahead of it.
	for _, end := range []int{65535, 65536, 65537, math.MaxInt} {
		holdsRight(t, []api.Item{{Kind: api.Box, To: end}, {Kind: api.Penalty, Cost: -10000, From: end, To: end}}, end <= 65536)
		holdsRight(t, []api.Item{{Kind: api.Box, To: 9}, {Kind: api.Penalty, Cost: -10000, From: 9, To: end}}, end <= 65536)
		holdsRight(t, []api.Item{{Kind: api.Penalty, Cost: -10000, To: end}}, end <= 65536)
	}
}

// holdsItem asks Right of an item alone ahead of the last one, behind others, and as the last one, if it is Forced.
func holdsItem(t *testing.T, x api.Item, right bool) {
	t.Helper()
	holdsRight(t, []api.Item{x, ending()}, right)
	holdsRight(t, []api.Item{{Kind: api.Box, Width: 3}, x, {Kind: api.Glue}, ending()}, right)
	if x.Kind == api.Penalty && x.Cost <= -10000 {
		holdsRight(t, []api.Item{x}, right)
	}
}

// P7.4: each measure of each kind.
func TestRightMeasures(t *testing.T) {
	for _, n := range []int{math.MinInt, -most, -1, 0, 1, most - 1, most, most + 1, math.MaxInt} {
		measure := n >= 0 && n <= most
		holdsItem(t, api.Item{Kind: api.Box, Width: n}, measure)
		holdsItem(t, api.Item{Kind: api.Box, Stretch: n}, n == 0)
		holdsItem(t, api.Item{Kind: api.Box, Width: most, Shrink: n}, n == 0)

		holdsItem(t, api.Item{Kind: api.Glue, Width: n}, measure)
		holdsItem(t, api.Item{Kind: api.Glue, Stretch: n}, measure)
		holdsItem(t, api.Item{Kind: api.Glue, Width: most, Shrink: n}, measure)
		holdsItem(t, api.Item{Kind: api.Glue, Width: n, Shrink: n}, measure)
		holdsItem(t, api.Item{Kind: api.Glue, Width: n, Stretch: most}, measure)
		holdsItem(t, api.Item{Kind: api.Glue, Fill: true, Width: n}, n == 0)
		holdsItem(t, api.Item{Kind: api.Glue, Fill: true, Stretch: n}, n == 0)
		holdsItem(t, api.Item{Kind: api.Glue, Fill: true, Shrink: n}, n == 0)

		for _, cost := range []int{-10000, 0, 10000} {
			holdsItem(t, api.Item{Kind: api.Penalty, Cost: cost, Width: n}, measure)
			holdsItem(t, api.Item{Kind: api.Penalty, Cost: cost, Stretch: n}, n == 0)
			holdsItem(t, api.Item{Kind: api.Penalty, Cost: cost, Width: most, Shrink: n}, n == 0)
		}
	}
}

// P7.4: a Shrink below its Width, at it and above.
func TestRightShrink(t *testing.T) {
	for _, width := range []int{0, 1, 2, 100, most - 1, most} {
		for _, shrink := range []int{width - 1, width, width + 1, 0} {
			holdsItem(t, api.Item{Kind: api.Glue, Width: width, Shrink: shrink}, shrink >= 0 && shrink <= width)
			holdsItem(t, api.Item{Kind: api.Glue, Width: width, Stretch: 5, Shrink: shrink}, shrink >= 0 && shrink <= width)
		}
	}
}

// P7.4: fields that a kind doesn't have, Costs, and numbers that are no Kind.
func TestRightKinds(t *testing.T) {
	for _, cost := range []int{math.MinInt, -10001, -10000, -9999, -1, 0, 1, 50, 9999, 10000, 10001, math.MaxInt} {
		holdsItem(t, api.Item{Kind: api.Box, Cost: cost}, cost == 0)
		holdsItem(t, api.Item{Kind: api.Glue, Cost: cost}, cost == 0)
		holdsItem(t, api.Item{Kind: api.Glue, Fill: true, Cost: cost}, cost == 0)
		holdsItem(t, api.Item{Kind: api.Penalty, Cost: cost}, cost >= -10000 && cost <= 10000)
		holdsItem(t, api.Item{Kind: api.Penalty, Cost: cost, Flag: true}, cost >= -10000 && cost <= 10000)
		holdsItem(t, api.Item{Kind: api.Penalty, Cost: cost, Fill: true}, false)
	}
	holdsItem(t, api.Item{Kind: api.Box, Fill: true}, false)
	holdsItem(t, api.Item{Kind: api.Box, Flag: true}, false)
	holdsItem(t, api.Item{Kind: api.Glue, Fill: true}, true)
	holdsItem(t, api.Item{Kind: api.Glue, Flag: true}, false)
	holdsItem(t, api.Item{Kind: api.Glue, Fill: true, Flag: true}, false)
	for _, kind := range []int{math.MinInt, -1, 0, 1, 2, 3, 4, 5, math.MaxInt} {
		holdsItem(t, api.Item{Kind: kind}, kind >= 1 && kind <= 3)
		holdsItem(t, api.Item{Kind: kind, Width: 2}, kind >= 1 && kind <= 3)
	}
}

// P7.4: a list with one field of one item changed, at every place.
func TestRightOneField(t *testing.T) {
	numbers := []int{math.MinInt, -10001, -10000, -1, 0, 1, 3, 4, 5, 50, 10000, 10001, 65536, 65537, most, most + 1, math.MaxInt}
	for k := range usual() {
		try := func(change func(x *api.Item)) {
			list := usual()
			change(&list[k])
			holdsRight(t, list, !faulty(list))
		}
		try(func(x *api.Item) { x.Fill = !x.Fill })
		try(func(x *api.Item) { x.Flag = !x.Flag })
		for _, n := range numbers {
			try(func(x *api.Item) { x.Kind = n })
			try(func(x *api.Item) { x.Width = n })
			try(func(x *api.Item) { x.Stretch = n })
			try(func(x *api.Item) { x.Shrink = n })
			try(func(x *api.Item) { x.Cost = n })
			try(func(x *api.Item) { x.From = n })
			try(func(x *api.Item) { x.To = n })
		}
	}
	// An item more, one less, and two that changed places.
	for k := range usual() {
		holdsRight(t, slices.Insert(usual(), k, api.Item{Kind: api.Box, From: usual()[k].From, To: usual()[k].From}), true)
		holdsRight(t, slices.Delete(usual(), k, k+1), k == 4) // the only one without bytes
		if k > 0 {
			list := usual()
			list[k-1], list[k] = list[k], list[k-1]
			holdsRight(t, list, false)
		}
	}
}

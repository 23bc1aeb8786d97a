package breaks_test

import (
	"slices"
	"testing"

	"reglet/api"
	"reglet/breaks"
	"reglet/items"
	"reglet/measure"
	"reglet/metrics"
)

// awful is what a way with a line that is Over costs; mostItems how many items a paragraph has at most.
const (
	awful     = 1 << 50
	mostItems = 262144
)

// Items without bytes.

func box(width int) api.Item { return api.Item{Kind: api.Box, Width: width} }

func glue(width, stretch, shrink int) api.Item {
	return api.Item{Kind: api.Glue, Width: width, Stretch: stretch, Shrink: shrink}
}

func penalty(width, cost int) api.Item { return api.Item{Kind: api.Penalty, Width: width, Cost: cost} }

func flagged(x api.Item) api.Item {
	x.Flag = true
	return x
}

func fill() api.Item { return api.Item{Kind: api.Glue, Fill: true} }

func forced() api.Item { return penalty(0, -10000) }

// spaced: Boxes of these widths with Glue between them; the last line is filled. The Glue behind the n-th Box is item 2n - 1, the last item 2n for n Boxes.
func spaced(space api.Item, widths ...int) []api.Item {
	var list []api.Item
	for k, width := range widths {
		if k > 0 {
			list = append(list, space)
		}
		list = append(list, box(width))
	}
	return append(list, fill(), forced())
}

// words: the chapter's example has such ones.
func words(widths ...int) []api.Item { return spaced(glue(10, 5, 3), widths...) }

// filled: for each end a Box of 10, Glue with Fill, and that end; a Forced one behind them all. The n-th end is item 3n - 1. Every line of them that isn't too wide is filled, Bad 0.
func filled(ends ...api.Item) []api.Item {
	var list []api.Item
	for _, end := range append(slices.Clone(ends), forced()) {
		list = append(list, box(10), fill(), end)
	}
	return list
}

// made: a paragraph of items that are right.
func made(t testing.TB, list []api.Item) *measure.Para {
	t.Helper()
	p, e := measure.New(list)
	if e != api.OK || p == nil {
		t.Fatalf("New: %v, %d", p, e)
	}
	return p
}

// built: the items of a text in one style, whose letters are 6 wide.
func built(t testing.TB, text string) []api.Item {
	t.Helper()
	m, e, _ := metrics.New([]api.Style{{Height: 10, Space: 10, Stretch: 5, Shrink: 3, Hyphen: 4, Other: 6}})
	if e != api.OK {
		t.Fatal(e)
	}
	list, e := items.Build(m, text, []api.Run{{Len: len(text)}})
	if e != api.OK {
		t.Fatal(e)
	}
	return list
}

// task is a paragraph, a width and settings.
type task struct {
	p     *measure.Para
	width int
	set   api.Settings
}

// does is the chapter's sentence: a line does, if its Fit is not Over and its Bad is at most Tolerance.
func (k task) does(a, b int) bool {
	f := k.p.Fit(a, b, k.width)
	return !f.Over && f.Bad <= k.set.Tolerance
}

// doesAtNeed is the emergency's rule: a line does, if it is not Over, or if it ends at the first break behind the one at which it begins.
func (k task) doesAtNeed(a, b int) bool {
	return !k.p.Fit(a, b, k.width).Over || b == k.behind(a)[0]
}

// behind: where a line behind a may end: the breaks behind it, up to the first Forced one.
func (k task) behind(a int) []int {
	var list []int
	for _, b := range k.p.Legal() {
		if b <= a {
			continue
		}
		list = append(list, b)
		if items.Forced(k.p.Item(b)) {
			break
		}
	}
	return list
}

// last: the last item.
func (k task) last() int { return k.p.Items() - 1 }

// ways: all of them that go on from a, whose lines all do.
func (k task) ways(a int, does func(a, b int) bool) [][]int {
	if a == k.last() {
		return [][]int{nil}
	}
	var all [][]int
	for _, b := range k.behind(a) {
		if !does(a, b) {
			continue
		}
		for _, rest := range k.ways(b, does) {
			all = append(all, append([]int{b}, rest...))
		}
	}
	return all
}

// s is the chapter's S, and whether it took the emergency's rule.
func (k task) s() ([][]int, bool) {
	if all := k.ways(-1, k.does); len(all) > 0 {
		return all, false
	}
	return k.ways(-1, k.doesAtNeed), true
}

// cost is the chapter's sentence: 0, and for each line in turn by measure.Total its measure.Cost.
func (k task) cost(way []int) int {
	total := 0
	ahead, a := measure.Ahead{Class: -1}, -1
	for _, b := range way {
		f := k.p.Fit(a, b, k.width)
		total = measure.Total(total, measure.Cost(k.set, f, k.p.Item(b), ahead, b == k.last()))
		ahead, a = measure.Ahead{Class: f.Class, Flag: k.p.Item(b).Flag}, b
	}
	return total
}

// best is P9.2's sentence, by a search through all ways.
func (k task) best() api.Breaking {
	all, emergency := k.s()
	best := api.Breaking{Breaks: all[0], Total: k.cost(all[0]), Emergency: emergency}
	for _, way := range all {
		cost := k.cost(way)
		if cost < best.Total || cost == best.Total && slices.Compare(way, best.Breaks) < 0 {
			best.Breaks, best.Total = way, cost
		}
	}
	return best
}

// broken: what Break tells, without an error.
func (k task) broken(t testing.TB) api.Breaking {
	t.Helper()
	b, e := breaks.Break(k.p, k.width, k.set)
	if e != api.OK {
		t.Fatalf("Break(%d, %v): %d", k.width, k.set, e)
	}
	return b
}

// alike: are two breakings the same?
func alike(a, b api.Breaking) bool {
	return slices.Equal(a.Breaks, b.Breaks) && a.Total == b.Total && a.Emergency == b.Emergency
}

// holds asks Break for what a search through all ways finds.
func (k task) holds(t testing.TB) api.Breaking {
	t.Helper()
	got, want := k.broken(t), k.best()
	if !alike(got, want) {
		t.Errorf("Break(%v, %d, %v): %v, not %v", k.list(), k.width, k.set, got, want)
	}
	k.holdsForm(t, got)
	return got
}

// list: the paragraph's items.
func (k task) list() []api.Item {
	var list []api.Item
	for n := range k.p.Items() {
		list = append(list, k.p.Item(n))
	}
	return list
}

// holdsForm: a Breaking ends with the last item, rises, has every Forced item and no item that isn't Legal; its lines do, by the rule that Emergency tells; and Total is what they cost.
func (k task) holdsForm(t testing.TB, b api.Breaking) {
	t.Helper()
	if len(b.Breaks) == 0 || b.Breaks[len(b.Breaks)-1] != k.last() {
		t.Errorf("%v doesn't end with item %d", b.Breaks, k.last())
	}
	list := k.list()
	does := k.does
	if b.Emergency {
		does = k.doesAtNeed
	}
	a := -1
	for _, n := range b.Breaks {
		if n <= a || !items.Legal(list, n) {
			t.Errorf("%v has %d behind %d", b.Breaks, n, a)
		}
		if !does(a, n) {
			t.Errorf("%v: the line from %d up to %d doesn't do: %v", b.Breaks, a, n, k.p.Fit(a, n, k.width))
		}
		a = n
	}
	for n, x := range list {
		if items.Forced(x) && !slices.Contains(b.Breaks, n) {
			t.Errorf("%v hasn't %d, that is Forced", b.Breaks, n)
		}
	}
	if cost := k.cost(b.Breaks); b.Total != cost {
		t.Errorf("%v costs %d, not %d", b.Breaks, cost, b.Total)
	}
}

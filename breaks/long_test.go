package breaks_test

import (
	"maps"
	"math/rand/v2"
	"slices"
	"strings"
	"testing"

	"reglet/api"
	"reglet/items"
	"reglet/measure"
)

// reached is a way up to a break: what it costs, and its breaks.
type reached struct {
	cost int
	way  []int
}

// forward finds the way from the beginning on: for each break and class of the line that ends there the best way up to it. No breaks, if there is none.
func (k task) forward(does func(a, b int) bool) reached {
	best := map[int]map[int]reached{-1: {-1: {}}}
	for _, a := range append([]int{-1}, k.p.Legal()...) {
		for n, b := range k.behind(a) {
			if low, _, _ := k.p.Bounds(a, b); n > 0 && low > k.width {
				break // longer ones are Over, too (P8.6)
			}
			if len(best[a]) == 0 || !does(a, b) {
				continue
			}
			f := k.p.Fit(a, b, k.width)
			for class, r := range best[a] {
				cost := measure.Cost(k.set, f, k.p.Item(b), measure.Ahead{Class: class, Flag: k.p.Item(a).Flag}, b == k.last())
				k.reach(best, b, f.Class, reached{measure.Total(r.cost, cost), append(slices.Clone(r.way), b)})
			}
		}
	}
	all := slices.Collect(maps.Values(best[k.last()]))
	if len(all) == 0 {
		return reached{}
	}
	return slices.MinFunc(all, compare)
}

// compare: the cheaper way first; of two that cost as much the one whose breaks are less.
func compare(a, b reached) int {
	if a.cost != b.cost {
		return a.cost - b.cost
	}
	return slices.Compare(a.way, b.way)
}

// reach: one more way up to a break.
func (k task) reach(best map[int]map[int]reached, b, class int, r reached) {
	if best[b] == nil {
		best[b] = map[int]reached{}
	}
	if old, ok := best[b][class]; !ok || compare(r, old) < 0 {
		best[b][class] = r
	}
}

// holdsLong asks Break for what forward finds; where no way costs less than Awful, for all breaks.
func (k task) holdsLong(t *testing.T) api.Breaking {
	t.Helper()
	got := k.broken(t)
	k.holdsForm(t, got)
	want, emergency := k.forward(k.does), false
	if want.way == nil {
		want, emergency = k.forward(k.doesAtNeed), true
	}
	if want.cost == awful {
		want.way = k.p.Legal()
	}
	if !alike(got, api.Breaking{Breaks: want.way, Total: want.cost, Emergency: emergency}) {
		t.Errorf("Break(%d, %v) of %d items: %v, not %v, %v", k.width, k.set, k.p.Items(), got, want, emergency)
	}
	k.holdsNear(t, got)
	return got
}

// holdsNear is P9.4: no way of S made from a Breaking by leaving out or adding a break costs less, nor as much with breaks that are less.
func (k task) holdsNear(t *testing.T, b api.Breaking) {
	t.Helper()
	does := k.does
	if b.Emergency {
		does = k.doesAtNeed
	}
	for _, n := range k.p.Legal() {
		at, has := slices.BinarySearch(b.Breaks, n)
		var other []int
		switch {
		case !has:
			other = slices.Insert(slices.Clone(b.Breaks), at, n)
		case !items.Forced(k.p.Item(n)):
			other = slices.Delete(slices.Clone(b.Breaks), at, at+1)
		default:
			continue
		}
		if !k.all(other, does) {
			continue
		}
		if cost := k.cost(other); compare(reached{cost, other}, reached{b.Total, b.Breaks}) < 0 {
			t.Errorf("%v costs %d, but %v costs %d", b.Breaks, b.Total, other, cost)
		}
	}
}

// all: do all lines of a way?
func (k task) all(way []int, does func(a, b int) bool) bool {
	a := -1
	for _, b := range way {
		if !does(a, b) {
			return false
		}
		a = b
	}
	return true
}

// longText: some hundreds of words, with hyphens, soft ones, and lines that end.
func longText(from *rand.Rand, count int) string {
	var text strings.Builder
	for range count {
		text.WriteString(strings.Repeat("n", 1+from.IntN(8)))
		text.WriteString([]string{" ", " ", " ", " ", " ", " ", " ", "-", "\u00ad", "\u00ad", "  ", "\u200b"}[from.IntN(12)])
		if from.IntN(120) == 0 {
			text.WriteString("\u2028")
		}
	}
	return text.String()
}

// P9.2, P9.4: texts of some hundreds of words.
func TestLongTexts(t *testing.T) {
	from := rand.New(rand.NewPCG(9, 5))
	plain, emergency, over := 0, 0, 0
	for n := range 24 {
		list := built(t, longText(from, 300+100*(n%3)))
		for _, width := range []int{44, 90, 150, 300, 700} {
			set := usual([]int{200, 10000, 50, 1000}[n%4])
			set.Double, set.Last = pick(from, 0, 3000, 10000), pick(from, 0, 5000)
			b := task{made(t, list), width, set}.holdsLong(t)
			if t.Failed() {
				return
			}
			switch {
			case !b.Emergency:
				plain++
			case b.Total < awful:
				emergency++
			default:
				over++
			}
		}
	}
	if min(plain, emergency, over) < 5 {
		t.Errorf("%d kept to the tolerance, %d took the emergency's rule, %d were Over", plain, emergency, over)
	}
}

// P9.2, P9.4: some hundreds of items made by hand.
func TestLongItems(t *testing.T) {
	from := rand.New(rand.NewPCG(9, 6))
	for n := range 60 {
		list := drawnWords(from, 250)
		if n%3 == 0 {
			list = drawnList(from, 300)
		}
		k := task{made(t, list), pick(from, 30, 35, 50, 60, 80, 100, 200, 1<<30), drawnSettings(from)}
		if k.holdsLong(t); t.Failed() {
			t.Fatalf("of %v", list)
		}
	}
}

package breaks_test

import (
	"math/rand/v2"
	"slices"
	"testing"

	"reglet/api"
)

// pick: one of these numbers.
func pick(from *rand.Rand, list ...int) int { return list[from.IntN(len(list))] }

// drawnItem: an item that may be, with measures that are often the same.
func drawnItem(from *rand.Rand) api.Item {
	switch from.IntN(9) {
	case 0, 1, 2, 3:
		return box(pick(from, 0, 1, 10, 10, 20, 30))
	case 4, 5:
		width := pick(from, 0, 5, 10)
		return glue(width, pick(from, 0, 1, 5, 10, 40), from.IntN(width+1))
	case 6:
		return fill()
	}
	x := penalty(pick(from, 0, 0, 0, 4, 30), pick(from, -10000, -9999, -5, 0, 0, 0, 5, 50, 9999, 10000))
	x.Flag = from.IntN(2) == 0
	return x
}

// drawnList: right items, so many at most ahead of the last one.
func drawnList(from *rand.Rand, most int) []api.Item {
	var list []api.Item
	for range from.IntN(most + 1) {
		list = append(list, drawnItem(from))
	}
	last := penalty(pick(from, 0, 0, 0, 7), -10000)
	last.Flag = from.IntN(4) == 0
	return append(list, last)
}

// drawnWords: Boxes with Glue between them or a Penalty, the last line filled or not: most ways of them do.
func drawnWords(from *rand.Rand, most int) []api.Item {
	var list []api.Item
	for range 1 + from.IntN(most) {
		list = append(list, box(pick(from, 5, 10, 10, 20, 25)))
		switch from.IntN(6) {
		case 0:
			list = append(list, flagged(penalty(pick(from, 0, 5), pick(from, 0, 50))))
		case 1:
			list = append(list, penalty(0, pick(from, -50, 0, 50)))
		default:
			list = append(list, glue(10, pick(from, 5, 10, 20), pick(from, 3, 5)))
		}
	}
	if from.IntN(3) > 0 {
		list = append(list, fill())
	}
	return append(list, forced())
}

// drawnSettings: such as may be, that often make ways cost as much.
func drawnSettings(from *rand.Rand) api.Settings {
	return api.Settings{
		Tolerance: pick(from, 0, 11, 12, 99, 100, 200, 1000, 9999, 10000, 10000),
		Line:      pick(from, 0, 1, 10, 10, 10000),
		Adjacent:  pick(from, 0, 1, 100, 10000, 1<<20),
		Double:    pick(from, 0, 1, 100, 10000, 1<<20),
		Last:      pick(from, 0, 1, 100, 10000, 1<<20),
		Orphans:   pick(from, 1, 2, 100),
		Widows:    pick(from, 1, 2, 100),
	}
}

// drawnWidth: mostly such that some lines have room, and some haven't.
func drawnWidth(from *rand.Rand) int {
	return pick(from, 1, 5, 10, 20, 25, 30, 35, 40, 50, 60, 80, 100, 200, 1<<30)
}

// P9.2, P9.4: of short paragraphs the way is the one that a search through all ways finds. Counted is how many there were of each kind, so that none is left out.
func TestDrawn(t *testing.T) {
	from := rand.New(rand.NewPCG(9, 2))
	plain, emergency, over, several := 0, 0, 0, 0
	for n := range 40000 {
		list := drawnList(from, 14)
		if n%2 == 0 {
			list = drawnWords(from, 8)
		}
		k := task{made(t, list), drawnWidth(from), drawnSettings(from)}
		b := k.holds(t)
		if t.Failed() {
			return
		}
		switch {
		case !b.Emergency:
			plain++
		case b.Total < awful:
			emergency++
		default:
			over++
		}
		if all, _ := k.s(); len(all) > 1 {
			several++
		}
	}
	if min(plain, emergency, over, several) < 2000 {
		t.Errorf("%d kept to the tolerance, %d took the emergency's rule, %d were Over; %d had several ways", plain, emergency, over, several)
	}
}

// P9.3: the shortest lines are always a way by the emergency's rule.
func TestAlwaysAWay(t *testing.T) {
	from := rand.New(rand.NewPCG(9, 3))
	for range 3000 {
		k := task{made(t, drawnList(from, 30)), drawnWidth(from), drawnSettings(from)}
		a := -1
		for _, b := range k.p.Legal() {
			if !k.doesAtNeed(a, b) {
				t.Fatalf("the line from %d up to %d of %v doesn't do", a, b, k.list())
			}
			a = b
		}
		b := k.broken(t)
		if k.holdsForm(t, b); t.Failed() {
			t.Fatalf("of %v, %d, %v", k.list(), k.width, k.set)
		}
		if cost := k.cost(k.p.Legal()); b.Emergency && b.Total > cost {
			t.Fatalf("Break(%v, %d, %v): %v, but the shortest lines cost %d", k.list(), k.width, k.set, b, cost)
		}
	}
}

// P9.2: a width and settings for each list: what differs is theirs, not what was asked ahead of it.
func TestSameAgain(t *testing.T) {
	from := rand.New(rand.NewPCG(9, 4))
	for range 300 {
		list := drawnWords(from, 30)
		p := made(t, list)
		width, set := drawnWidth(from), drawnSettings(from)
		first := task{p, width, set}.broken(t)
		task{p, drawnWidth(from), drawnSettings(from)}.broken(t)
		for _, again := range []api.Breaking{task{p, width, set}.broken(t), task{made(t, slices.Clone(list)), width, set}.broken(t)} {
			if !alike(again, first) {
				t.Fatalf("Break(%v, %d, %v): %v, then %v", list, width, set, first, again)
			}
		}
	}
}

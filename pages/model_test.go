package pages_test

import (
	"math"
	"slices"
	"testing"

	"reglet/api"
	"reglet/measure"
	"reglet/pages"
)

const (
	minInt = math.MinInt
	maxInt = math.MaxInt
)

// para: the lines of a paragraph that are so high.
func para(heights ...int) []api.Slot {
	list := make([]api.Slot, len(heights))
	for k, h := range heights {
		list[k] = api.Slot{Height: h, Index: k, Count: len(heights)}
	}
	return list
}

// kept: these lines, of a paragraph that stays with the next one.
func kept(list []api.Slot) []api.Slot {
	out := slices.Clone(list)
	for k := range out {
		out[k].Keep = true
	}
	return out
}

// even: the lines of a paragraph that are all so high.
func even(many, height int) []api.Slot {
	return para(slices.Repeat([]int{height}, many)...)
}

// document: paragraphs one behind the other.
func document(paras ...[]api.Slot) []api.Slot { return slices.Concat(paras...) }

// asks: the usual settings with other Orphans and Widows.
func asks(orphans, widows int) api.Settings {
	set := measure.Usual()
	set.Orphans, set.Widows = orphans, widows
	return set
}

// mayEnd: by the chapter's sentences, may a page end ahead of a line of a document's lines (or behind them all)? The paragraph's lines are counted one by one.
func mayEnd(list []api.Slot, ahead int, set api.Settings) bool {
	line := ahead - 1
	if ahead == len(list) {
		return true
	}
	upTo, behind := 1, 0
	for k := line; list[k].Index != 0; k-- {
		upTo++
	}
	for k := line + 1; k < len(list) && list[k].Index != 0; k++ {
		behind++
	}
	if behind == 0 {
		return !list[line].Keep
	}
	return upTo >= set.Orphans && behind >= set.Widows
}

// together: how high lines are.
func together(list []api.Slot) int {
	high := 0
	for _, s := range list {
		high += s.Height
	}
	return high
}

// next: a plain search by P12.2's words.
func next(list []api.Slot, from, height int, set api.Settings) int {
	if from == len(list) {
		return from
	}
	least, greatest := 0, 0
	for n := len(list); n > from; n-- {
		if !mayEnd(list, n, set) {
			continue
		}
		least = n
		if greatest == 0 && together(list[from:n]) <= height {
			greatest = n
		}
	}
	if greatest > 0 {
		return greatest
	}
	return least
}

// starts: where pages begin, by the plain search.
func starts(list []api.Slot, height int, set api.Settings) []int {
	var out []int
	for line := 0; line < len(list); line = next(list, line, height, set) {
		out = append(out, line)
	}
	return out
}

// units: the parts that stay together, by the sentences.
func units(list []api.Slot, set api.Settings) []int {
	var out []int
	for line := range list {
		if line == 0 || mayEnd(list, line, set) {
			out = append(out, line)
		}
	}
	return out
}

// holds: Next from every line, Paginate, Units and what follows, for a document's lines.
func holds(t *testing.T, list []api.Slot, height int, set api.Settings) []int {
	t.Helper()
	if e := pages.Right(list); e != api.OK {
		t.Fatalf("Right(%v): %d", list, e)
	}
	for from := range len(list) + 1 {
		if got, want := pages.Next(list, from, height, set), next(list, from, height, set); got != want {
			t.Fatalf("Next from %d of %v, height %d, %d and %d: %d, not %d", from, list, height, set.Orphans, set.Widows, got, want)
		}
	}
	got, e := pages.Paginate(list, height, set)
	if want := starts(list, height, set); e != api.OK || !slices.Equal(got, want) {
		t.Fatalf("Paginate(%v), height %d, %d and %d: %v, %d, not %v", list, height, set.Orphans, set.Widows, got, e, want)
	}
	parts := pages.Units(list, set)
	if want := units(list, set); !slices.Equal(parts, want) {
		t.Fatalf("Units(%v), %d and %d: %v, not %v", list, set.Orphans, set.Widows, parts, want)
	}
	follows(t, list, got, parts, height)
	return got
}

// follows: P12.4, P12.5: no page is empty, none begins within a part, every line is on one, and none is too high unless it is one part.
func follows(t *testing.T, list []api.Slot, starts, parts []int, height int) {
	t.Helper()
	heights := pages.Heights(list, starts)
	if len(heights) != len(starts) {
		t.Fatalf("Heights of %d pages: %v", len(starts), heights)
	}
	line := 0
	for page, start := range starts {
		end := pages.End(starts, page, len(list))
		if start != line || end <= start {
			t.Fatalf("page %d of %v is from %d to %d, behind line %d", page, starts, start, end, line)
		}
		part, begins := slices.BinarySearch(parts, start)
		if !begins {
			t.Fatalf("page %d of %v begins within a part of %v", page, starts, parts)
		}
		if high := together(list[start:end]); heights[page] != high {
			t.Fatalf("page %d of %v is %d high, not %d", page, starts, heights[page], high)
		}
		several := part+1 < len(parts) && parts[part+1] < end
		if heights[page] > height && several {
			t.Fatalf("page %d of %v is %d high, and has several parts of %v", page, starts, heights[page], parts)
		}
		line = end
	}
	if line != len(list) {
		t.Fatalf("the pages of %v have %d lines of %d", starts, line, len(list))
	}
}

// wantStarts: holds, and pages begin with these lines.
func wantStarts(t *testing.T, list []api.Slot, height int, set api.Settings, want ...int) {
	t.Helper()
	if got := holds(t, list, height, set); !slices.Equal(got, want) {
		t.Errorf("the pages of %v, height %d, %d and %d, begin with %v, not %v", list, height, set.Orphans, set.Widows, got, want)
	}
}

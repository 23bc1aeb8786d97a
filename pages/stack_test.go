package pages_test

import (
	"slices"
	"strconv"
	"testing"

	"reglet/api"
	"reglet/lines"
	"reglet/pages"
)

// P12.3: End for every page, and beyond the last.
func TestEnd(t *testing.T) {
	list := []int{0, 3, 4, 9}
	for page, want := range []int{3, 4, 9, 20, 20, 20} {
		if got := pages.End(list, page, 20); got != want {
			t.Errorf("End of page %d: %d, not %d", page, got, want)
		}
	}
	for _, lines := range []int{minInt, -1, 0, 9, 10, maxInt} {
		for _, page := range []int{3, 4, maxInt - 1, maxInt} {
			if got := pages.End(list, page, lines); got != lines {
				t.Errorf("End of page %d of %d lines: %d", page, lines, got)
			}
		}
		for _, page := range []int{0, 1, maxInt} {
			if got := pages.End(nil, page, lines); got != lines {
				t.Errorf("End of page %d of none, %d lines: %d", page, lines, got)
			}
			if got := pages.End([]int{0}, page, lines); got != lines {
				t.Errorf("End of page %d of one, %d lines: %d", page, lines, got)
			}
		}
	}
	for _, page := range []int{minInt, -2, -1} {
		pages.End(list, page, 20)
		pages.End(nil, page, 20)
	}
}

// P12.3: Find ahead of the first start, at each, between and behind them, and with no starts.
func TestFind(t *testing.T) {
	for _, c := range []struct {
		list       []int
		line, want int
	}{
		{nil, 0, -1}, {nil, minInt, -1}, {nil, maxInt, -1}, {[]int{}, 5, -1},
		{[]int{0}, -1, -1}, {[]int{0}, 0, 0}, {[]int{0}, 1, 0}, {[]int{0}, maxInt, 0}, {[]int{0}, minInt, -1},
		{[]int{4}, 3, -1}, {[]int{4}, 4, 0},
		{[]int{minInt, -3, 0, maxInt}, minInt, 0}, {[]int{minInt, -3, 0, maxInt}, -4, 0}, {[]int{minInt, -3, 0, maxInt}, -3, 1}, {[]int{minInt, -3, 0, maxInt}, maxInt - 1, 2}, {[]int{minInt, -3, 0, maxInt}, maxInt, 3},
	} {
		if got := pages.Find(c.list, c.line); got != c.want {
			t.Errorf("Find(%v, %d): %d, not %d", c.list, c.line, got, c.want)
		}
	}
	var list []int
	for start := 2; start < 40; start += 1 + start%4 {
		list = append(list, start)
		for line := -3; line < 45; line++ {
			want := -1
			for page, start := range list {
				if start <= line {
					want = page
				}
			}
			if got := pages.Find(list, line); got != want {
				t.Errorf("Find(%v, %d): %d, not %d", list, line, got, want)
			}
		}
	}
	for line := range 20 {
		pages.Find([]int{5, 3, 3, 9, -1, 9, 0}, line)
	}
}

// P12.3: Heights, written out.
func TestHeights(t *testing.T) {
	list := document(para(1, 2, 4), para(8), kept(para(16, 32)))
	for _, c := range []struct{ starts, want []int }{
		{nil, nil}, {[]int{0}, []int{63}}, {[]int{0, 1}, []int{1, 62}}, {[]int{0, 5}, []int{31, 32}}, {[]int{0, 2, 4}, []int{3, 12, 48}}, {[]int{0, 1, 2, 3, 4, 5}, []int{1, 2, 4, 8, 16, 32}},
	} {
		if got := pages.Heights(list, c.starts); !slices.Equal(got, c.want) {
			t.Errorf("Heights(%v): %v, not %v", c.starts, got, c.want)
		}
	}
	if got := pages.Heights(nil, nil); len(got) > 0 {
		t.Errorf("Heights of nothing: %v", got)
	}
	// It asks of the lines no more than a Height.
	raw := []api.Slot{{Height: -5, Index: 9}, {Height: maxInt}, {}, {Height: minInt, Count: -1, Keep: true}}
	if got := pages.Heights(raw, []int{0, 1, 3}); !slices.Equal(got, []int{-5, maxInt, minInt}) {
		t.Errorf("Heights of others: %v", got)
	}
}

// laid: lines that are all unlike one another, of these heights, and with a Y that they had somewhere else.
func laid(heights ...int) []api.Line {
	list := make([]api.Line, len(heights))
	for k, h := range heights {
		text := "line " + strconv.Itoa(k)
		list[k] = api.Line{Text: text, Runs: []api.Run{{Len: 2, Style: k}, {Len: len(text) - 2, Style: k + 1}}, Num: k, Den: k + 1, Height: h, Hyphen: k%3 == 0, Y: 1000 + k, Begin: k%2 == 0, End: k%4 > 1}
	}
	return list
}

// wantOf: the pages have each line of these once, in order, with these Ys.
func wantOf(t *testing.T, list []api.Line, starts []int, ys []int) {
	t.Helper()
	got := pages.Of(list, starts)
	if len(got) != len(starts) {
		t.Fatalf("Of(%v): %d pages", starts, len(got))
	}
	line := 0
	for page, p := range got {
		if starts[page] != line {
			t.Fatalf("page %d of %v begins with line %d", page, starts, line)
		}
		for k, l := range p.Lines {
			want := list[line]
			want.Y = ys[line]
			if !lines.Same(l, want) {
				t.Errorf("line %d of page %d of %v: %+v, not %+v", k, page, starts, l, want)
			}
			line++
		}
	}
	if line != len(list) {
		t.Errorf("the pages of %v have %d lines of %d", starts, line, len(list))
	}
}

// P12.3, P12.4: Of, written out.
func TestOf(t *testing.T) {
	list := laid(1, 2, 4, 8, 16, 32)
	wantOf(t, list, []int{0}, []int{0, 1, 3, 7, 15, 31})
	wantOf(t, list, []int{0, 1}, []int{0, 0, 2, 6, 14, 30})
	wantOf(t, list, []int{0, 5}, []int{0, 1, 3, 7, 15, 0})
	wantOf(t, list, []int{0, 2, 4}, []int{0, 1, 0, 4, 0, 16})
	wantOf(t, list, []int{0, 1, 2, 3, 4, 5}, []int{0, 0, 0, 0, 0, 0})
	wantOf(t, list[:1], []int{0}, []int{0})
	wantOf(t, nil, nil, nil)
	// It asks of the lines no more than a Height.
	wantOf(t, laid(-5, 0, 7, maxInt, 1), []int{0, 4}, []int{0, -5, -5, 2, 0})
	wantOf(t, []api.Line{{}, {Y: -1}, {Text: "\xff", Runs: []api.Run{{Len: -1, Style: 99}}}}, []int{0}, []int{0, 0, 0})
}

// P1: End, Heights, Of and Find end, whatever they are given.
func TestWrongStarts(t *testing.T) {
	slots, list := even(4, 10), laid(1, 2, 3, 4)
	for _, starts := range [][]int{nil, {0}, {1}, {-1}, {4}, {5}, {0, 4}, {0, 9}, {3, 1}, {0, 0, 0}, {2, 2, 1, 3, 0}, {minInt, maxInt}, {maxInt, minInt}, {0, minInt, 2}, {0, maxInt, 2}} {
		for n := range 5 {
			pages.Heights(slots[:n], starts)
			pages.Of(list[:n], starts)
			for page := range 6 {
				pages.End(starts, page, n)
			}
			pages.Find(starts, n)
		}
	}
}

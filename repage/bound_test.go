package repage

import (
	"slices"
	"testing"

	"reglet/api"
)

// P13.5: pages ahead of the one that is told, and behind the one that is found again, aren't built: where they are put wrong ahead of the call, they stay wrong.
func TestReplaceBuildsNoMore(t *testing.T) {
	for _, c := range []struct {
		first, gone, come     int
		page, found, nowBuilt int // found: the line with which the page began that is found again
	}{
		{20, 1, 1, 9, 22, 2}, {21, 1, 1, 9, 22, 2}, {20, 0, 0, 9, 20, 1}, {20, 0, 2, 9, 20, 2}, {20, 2, 0, 9, 22, 1}, {20, 2, 2, 9, 22, 2},
		{21, 2, 4, 9, 24, 4}, {20, 4, 2, 9, 24, 2}, {23, 1, 9, 10, 24, 6}, {23, 9, 1, 10, 32, 2}, {0, 1, 1, 0, 2, 1}, {2, 1, 1, 0, 4, 2}, {0, 8, 0, 0, 8, 0},
	} {
		b := made(t, ones(60), 20, asks(2, 2)) // pages begin with all the even lines
		for page, line := range b.starts {
			if page > 0 && page < c.page {
				b.starts[page]--
			}
			if line > c.found {
				b.starts[page]++
			}
		}
		wrong := slices.Clone(b.starts)
		page, built, e := b.Replace(c.first, c.gone, ones(c.come))
		if page != c.page || built != c.nowBuilt || e != api.OK {
			t.Errorf("Replace(%d, %d, %d lines): %d, %d, %d", c.first, c.gone, c.come, page, built, e)
			continue
		}
		want := slices.Clone(wrong[:page])
		for n := range built {
			want = append(want, 2*(page+n))
		}
		for _, line := range wrong[c.found/2:] {
			want = append(want, line+c.come-c.gone)
		}
		if !slices.Equal(b.starts, want) {
			t.Errorf("Replace(%d, %d, %d lines): pages begin with %v, want %v", c.first, c.gone, c.come, b.starts, want)
		}
	}
}

// bound: how many pages P13.5 lets a Replace build, from its first one up to the first one behind come that began there ahead of it; all of them, if there is none.
func bound(ahead, now []int, page, first, gone, come int) int {
	for n, line := range now {
		if line >= first+come && slices.Contains(ahead, line-come+gone) {
			return n - page
		}
	}
	return len(now) - page
}

// P13.5: in lists as long as a document's can be, an edit wherever it is builds a few pages.
func TestManyLines(t *testing.T) {
	const many = api.MaxText
	b := made(t, ones(many), 40, asks(2, 2))
	for _, first := range []int{0, 1, 2, 3, 4, 5, many / 3, many / 2, many - 5, many - 4, many - 1} {
		for _, come := range [][]api.Slot{ones(1), para(1), para(40), ones(5), even(5, 10)} {
			ahead := b.Starts()
			page, built, e := b.Replace(first, 1, come)
			if most := bound(ahead, b.Starts(), page, first, 1, len(come)); e != api.OK || built > most {
				t.Fatalf("Replace(%d, 1, %v): %d, %d, %d, more than %d", first, come, page, built, e, most)
			}
			wholePage := len(come)%4 == 1 && come[0] == ones(1)[0] // more lines, or none: what is behind keeps its pages
			if wholePage && built > 4 {
				t.Errorf("Replace(%d, 1, %v): %d pages were built", first, come, built)
			}
			if _, _, e := b.Replace(first, len(come), ones(1)); e != api.OK {
				t.Fatal(e)
			}
		}
	}
	plainOf(ones(many), 40, asks(2, 2)).agree(t, b)
}

// P13.5: many edits in one place of a long book, each of them a few pages' work.
func TestManyEdits(t *testing.T) {
	x := bothOf(t, ones(20000), 40, asks(2, 2))
	for n := range 2000 {
		height := 9 + n%2
		page, built, e := x.book.Replace(9001, 1, para(height))
		if page != 2249 || built != 2 || e != api.OK {
			t.Fatalf("edit %d: %d, %d, %d", n, page, built, e)
		}
	}
	x.plain.put(9001, 1, para(10))
	x.plain.agree(t, x.book)
}

// P13.2, P13.3: pages and lines as high as may be.
func TestHighest(t *testing.T) {
	many := api.MaxMeasure / api.MaxUnit
	list := slices.Repeat(para(api.MaxUnit), 2*many)
	x := bothOf(t, list, api.MaxMeasure, asks(1, 1))
	wantReplace(t, x, 0, 0, para(1), 0, 3, 0, many, 2*many)
	wantReplace(t, x, many, 1, para(api.MaxUnit-1), 0, 2, 0, many+1) // the first page is full to the last measure
	wantReplace(t, x, 0, 1, nil, 0, 1, 0, many)
	x.resize(t, 1)
	x.resize(t, api.MaxMeasure)
}

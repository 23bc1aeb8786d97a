package pages_test

import (
	"slices"
	"testing"

	"reglet/api"
	"reglet/pages"
)

// The chapter's examples.
func TestExamples(t *testing.T) {
	wantStarts(t, even(5, 10), 30, asks(2, 2), 0, 3)
	wantStarts(t, even(5, 10), 30, asks(2, 3), 0, 2)
}

// The document's examples of pages: four paragraphs of one line, without and with a third one that stays with the fourth.
func TestFourParagraphs(t *testing.T) {
	one := para(10)
	wantStarts(t, document(one, one, one, one), 30, asks(2, 2), 0, 3)
	wantStarts(t, document(one, one, kept(one), one), 30, asks(2, 2), 0, 2)
}

// P12.2: which error comes first: the height's, the settings', the lines'.
func TestPaginateErrors(t *testing.T) {
	right, wrong := even(3, 10), even(3, 10)[:2]
	for _, list := range [][]api.Slot{nil, right, wrong} {
		for _, height := range []int{minInt, -1, 0, api.MaxMeasure + 1, maxInt} {
			for _, set := range append(wrongSettings(), rightSettings()...) {
				if got, e := pages.Paginate(list, height, set); len(got) > 0 || e != api.ErrWidth {
					t.Errorf("Paginate(%v, %d, %v): %v, %d", list, height, set, got, e)
				}
			}
		}
		for _, set := range wrongSettings() {
			if got, e := pages.Paginate(list, 20, set); len(got) > 0 || e != api.ErrSettings {
				t.Errorf("Paginate(%v, 20, %v): %v, %d", list, set, got, e)
			}
		}
	}
	for _, list := range [][]api.Slot{wrong, para(0), para(api.MaxUnit + 1), {{}}, document(right, wrong), document(wrong, right), {{Height: 1, Index: -1, Count: 1}}} {
		for _, height := range []int{1, 20, api.MaxMeasure} {
			if got, e := pages.Paginate(list, height, asks(1, 1)); len(got) > 0 || e != api.ErrRange {
				t.Errorf("Paginate(%v, %d): %v, %d", list, height, got, e)
			}
		}
	}
}

// P12.2: no lines have no pages.
func TestPaginateNothing(t *testing.T) {
	for _, list := range [][]api.Slot{nil, {}} {
		for _, height := range []int{1, api.MaxMeasure} {
			wantStarts(t, list, height, asks(2, 2))
		}
	}
}

// P12.2: one line has a page, however high it is.
func TestPaginateOneLine(t *testing.T) {
	for _, list := range [][]api.Slot{para(10), kept(para(10)), para(1), para(api.MaxUnit)} {
		for _, height := range []int{1, 9, 10, 11, api.MaxMeasure} {
			for _, set := range rightSettings() {
				wantStarts(t, list, height, set, 0)
			}
		}
	}
}

// P12.2: lines that fit a page just so, and by one too little.
func TestPaginateJustSo(t *testing.T) {
	one, two := document(para(10), para(11), para(12)), even(6, 10)
	wantStarts(t, one, 33, asks(2, 2), 0)
	wantStarts(t, one, 32, asks(2, 2), 0, 2)
	wantStarts(t, one, 21, asks(2, 2), 0, 2)
	wantStarts(t, one, 20, asks(2, 2), 0, 1, 2)
	wantStarts(t, two, 60, asks(2, 2), 0)
	wantStarts(t, two, 59, asks(2, 2), 0, 4) // 5 lines would fit, but one would be left
	wantStarts(t, two, 59, asks(2, 1), 0, 5)
	wantStarts(t, two, 40, asks(2, 2), 0, 4)
	wantStarts(t, two, 39, asks(2, 2), 0, 3)
	wantStarts(t, two, 20, asks(2, 2), 0, 2, 4)
	wantStarts(t, two, 19, asks(2, 2), 0, 2, 3, 4) // parts of 2, 1, 1 and 2 lines
	wantStarts(t, two, 20, asks(1, 1), 0, 2, 4)
	wantStarts(t, two, 19, asks(1, 1), 0, 1, 2, 3, 4, 5)
	wantStarts(t, two, 1, asks(1, 1), 0, 1, 2, 3, 4, 5)
}

// P12.2, P12.5: parts that stay together and are higher than the page: each has a page, and nothing else is on that.
func TestPaginateHighParts(t *testing.T) {
	// A paragraph that can't be cut at all.
	wantStarts(t, even(3, 10), 20, asks(2, 2), 0)
	wantStarts(t, document(even(3, 10), even(3, 10)), 20, asks(2, 2), 0, 3)
	wantStarts(t, document(para(5), even(3, 10), para(5)), 25, asks(2, 2), 0, 1, 4)
	wantStarts(t, document(para(5), even(3, 10), para(5)), 30, asks(2, 2), 0, 1, 4)
	wantStarts(t, document(para(5), even(3, 10), para(5)), 35, asks(2, 2), 0, 4)
	wantStarts(t, document(para(5), even(3, 10), para(5)), 40, asks(2, 2), 0)
	// Orphans and Widows that are more than there are lines.
	wantStarts(t, even(99, 10), 20, asks(100, 1), 0)
	wantStarts(t, even(99, 10), 20, asks(1, 100), 0)
	wantStarts(t, document(even(150, 1), even(150, 1)), 120, asks(50, 100), 0, 50, 150, 200)
	// One line that is higher than the page, ahead of others, among them, behind them.
	wantStarts(t, document(para(50), para(10), para(10)), 20, asks(2, 2), 0, 1)
	wantStarts(t, document(para(10), para(50), para(10)), 20, asks(2, 2), 0, 1, 2)
	wantStarts(t, document(para(10), para(10), para(50)), 20, asks(2, 2), 0, 2)
	wantStarts(t, para(10, 50, 10, 10), 20, asks(1, 1), 0, 1, 2)
	// The first of its lines fit, but no page may end there.
	wantStarts(t, para(10, 10, 10, 50, 10, 10, 10), 40, asks(3, 3), 0, 3, 4)
	wantStarts(t, para(10, 10, 10, 50, 10, 10, 10), 20, asks(3, 3), 0, 3, 4)
	wantStarts(t, para(10, 10, 10, 50, 10, 10, 10), 20, asks(4, 3), 0, 4)
	// A low part behind a high one isn't drawn to it, though less is asked of that page.
	wantStarts(t, document(even(3, 10), para(1)), 29, asks(3, 3), 0, 3)
	wantStarts(t, document(even(3, 10), para(1)), 30, asks(3, 3), 0, 3)
	wantStarts(t, document(even(3, 10), para(1)), 31, asks(3, 3), 0)
}

// P12.2: paragraphs that stay with the next one.
func TestPaginateKeep(t *testing.T) {
	one := kept(para(10))
	// All of them: the document's end is the only one.
	for many := 1; many <= 6; many++ {
		for _, height := range []int{1, 9, 10, 25, 60, api.MaxMeasure} {
			wantStarts(t, slices.Repeat(one, many), height, asks(1, 1), 0)
		}
	}
	// Longer ones may be cut, but not behind them.
	long := kept(even(4, 10))
	wantStarts(t, document(long, long), 20, asks(1, 1), 0, 2, 3, 5, 7)
	wantStarts(t, document(long, long), 20, asks(2, 2), 0, 2, 6)
	wantStarts(t, document(long, long), 40, asks(2, 2), 0, 2, 6)
	wantStarts(t, document(long, long), 60, asks(2, 2), 0, 6)
	wantStarts(t, document(long, long), 79, asks(3, 3), 0)
	// A heading ahead of a paragraph goes with its first lines.
	text := document(even(3, 10), one, even(5, 10))
	wantStarts(t, text, 40, asks(2, 2), 0, 3, 7)
	wantStarts(t, text, 59, asks(2, 2), 0, 3, 7)
	wantStarts(t, text, 60, asks(2, 2), 0, 6)
	wantStarts(t, text, 60, asks(3, 2), 0, 3)
	wantStarts(t, text, 70, asks(3, 2), 0, 7)
	// Two headings, one behind the other.
	wantStarts(t, document(para(10), one, one, even(2, 10), para(10)), 40, asks(1, 1), 0, 4)
	wantStarts(t, document(para(10), one, one, even(2, 10), para(10)), 30, asks(1, 1), 0, 1, 4)
	wantStarts(t, document(para(10), one, one, even(2, 10), para(10)), 30, asks(2, 1), 0, 1, 5)
	// A page may end ahead of one that stays with the next.
	wantStarts(t, document(para(10), one, para(10), para(10)), 20, asks(1, 1), 0, 1, 3)
}

// P12.2: lists of all kinds, with all heights and many settings, from every line, against the plain search.
func TestNext(t *testing.T) {
	one := para(10)
	for _, list := range [][]api.Slot{
		nil, one, kept(one), even(7, 10), kept(even(7, 10)), para(3, 9, 1, 4, 4, 2), document(one, one, one, one), slices.Repeat(kept(one), 5),
		document(para(5, 6), kept(para(7)), para(1, 2, 3, 4), kept(para(9, 9)), kept(para(2)), para(30), para(1)),
	} {
		most := together(list)
		for _, orphans := range []int{1, 2, 3, 5, 100} {
			for _, widows := range []int{1, 2, 3, 5, 100} {
				for height := 1; height <= most+1; height++ {
					holds(t, list, height, asks(orphans, widows))
				}
			}
		}
	}
}

// P12.2: Next asks nothing of a height and of settings: the words hold for all of them.
func TestNextOfOthers(t *testing.T) {
	list := document(para(10), even(3, 10), kept(even(2, 10)), para(10))
	for _, height := range []int{minInt, minInt + 1, -10, -1, 0, 5, 10, 25, 70, api.MaxMeasure + 1, maxInt} {
		for _, set := range append(wrongSettings(), rightSettings()...) {
			for from := range len(list) + 1 {
				if got, want := pages.Next(list, from, height, set), next(list, from, height, set); got != want {
					t.Errorf("Next from %d, height %d, %v: %d, not %d", from, height, set, got, want)
				}
			}
		}
	}
}

// P12.2: a page that is as high as may be, of lines that are, and one more.
func TestNextHighest(t *testing.T) {
	many := api.MaxMeasure / api.MaxUnit
	list := slices.Repeat(para(api.MaxUnit), many+1)
	wantStarts(t, list, api.MaxMeasure, asks(1, 1), 0, many)
	wantStarts(t, list[1:], api.MaxMeasure, asks(1, 1), 0)
	wantStarts(t, list, api.MaxMeasure-1, asks(1, 1), 0, many-1)
}

// P12.3: Units, written out.
func TestUnits(t *testing.T) {
	one := para(10)
	for _, c := range []struct {
		list            []api.Slot
		orphans, widows int
		want            []int
	}{
		{nil, 1, 1, nil},
		{one, 1, 1, []int{0}}, {kept(one), 1, 1, []int{0}}, {one, 100, 100, []int{0}},
		{even(5, 10), 1, 1, []int{0, 1, 2, 3, 4}}, {even(5, 10), 2, 2, []int{0, 2, 3}}, {even(5, 10), 2, 3, []int{0, 2}}, {even(5, 10), 3, 3, []int{0}}, {even(5, 10), 1, 4, []int{0, 1}}, {even(5, 10), 4, 1, []int{0, 4}},
		{document(one, one, one), 9, 9, []int{0, 1, 2}}, {document(kept(one), one, one), 9, 9, []int{0, 2}}, {document(one, kept(one), one), 9, 9, []int{0, 1}}, {document(one, one, kept(one)), 9, 9, []int{0, 1, 2}},
		{slices.Repeat(kept(one), 4), 1, 1, []int{0}},
		{document(kept(even(3, 10)), even(3, 10)), 1, 1, []int{0, 1, 2, 4, 5}}, {document(kept(even(3, 10)), even(3, 10)), 2, 1, []int{0, 2, 5}}, {document(kept(even(3, 10)), even(3, 10)), 1, 2, []int{0, 1, 4}},
	} {
		if got := pages.Units(c.list, asks(c.orphans, c.widows)); !slices.Equal(got, c.want) {
			t.Errorf("Units(%v), %d and %d: %v, not %v", c.list, c.orphans, c.widows, got, c.want)
		}
	}
}

// P12.3: Units asks of a list no more than May does.
func TestUnitsOfOthers(t *testing.T) {
	list := document(para(0, -1), even(5, 10)[1:4], kept(para(maxInt)), []api.Slot{{}, {Index: 3, Count: 4}, {Index: maxInt, Count: minInt}})
	for _, set := range append(wrongSettings(), rightSettings()...) {
		var want []int
		for line := range list {
			if line == 0 || pages.May(list[line-1], set) {
				want = append(want, line)
			}
		}
		if got := pages.Units(list, set); !slices.Equal(got, want) {
			t.Errorf("Units, %v: %v, not %v", set, got, want)
		}
	}
}

// P1: Next ends, whatever it is given.
func TestNextRaw(t *testing.T) {
	lists := [][]api.Slot{nil, {{}}, even(5, 10)[1:3], para(maxInt, maxInt, minInt, -1, 0), {{Height: minInt, Index: maxInt, Count: minInt}, {Height: -1, Keep: true}}}
	for _, list := range lists {
		for _, from := range []int{minInt, -2, -1, 0, 1, 2, 5, 6, maxInt} {
			for _, height := range []int{minInt, -1, 0, 1, 20, maxInt} {
				for _, set := range []api.Settings{{}, asks(2, 2), asks(minInt, maxInt), asks(maxInt, minInt)} {
					pages.Next(list, from, height, set)
				}
			}
		}
	}
}

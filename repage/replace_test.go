package repage

import (
	"slices"
	"testing"

	"reglet/api"
)

// wantReplace: what a Replace tells and what becomes of the pages, written out and held against the plain book.
func wantReplace(t *testing.T, x both, first, gone int, come []api.Slot, page, built int, starts ...int) {
	t.Helper()
	ahead := x.book.Starts()
	gotPage, gotBuilt, e := x.replace(t, first, gone, come)
	if gotPage != page || gotBuilt != built || e != api.OK || !slices.Equal(x.book.Starts(), starts) {
		t.Errorf("Replace(%d, %d, %v), pages began with %v: %d, %d, %d, they begin with %v, want %d, %d, %v", first, gone, come, ahead, gotPage, gotBuilt, e, x.book.Starts(), page, built, starts)
	}
}

// six: the chapter's book: its pages begin with 0, 2, 4.
func six(t *testing.T) both {
	t.Helper()
	return bothOf(t, ones(6), 20, asks(2, 2))
}

// The chapter's example.
func TestExample(t *testing.T) {
	wantReplace(t, six(t), 3, 1, ones(1), 0, 2, 0, 2, 4)
}

// P13.2: what is refused, each for itself and together, with its error, and the book stays as it was.
func TestReplaceErrors(t *testing.T) {
	list := document(even(3, 10), para(10), kept(even(2, 10)), ones(1)) // paragraphs begin with 0, 3, 4, 6
	x := bothOf(t, list, 30, asks(2, 2))
	refuses := func(first, gone int, come []api.Slot) {
		t.Helper()
		if page, built, e := x.replace(t, first, gone, come); page != 0 || built != 0 || e != api.ErrRange {
			t.Errorf("Replace(%d, %d, %v): %d, %d, %d", first, gone, come, page, built, e)
		}
	}
	for _, come := range append(wrongLists(), nil, ones(1), even(4, 10)) {
		for _, first := range []int{minInt, -3, -1} {
			for _, gone := range []int{minInt, -1, 0, 1, 3, 4, 7, 8, maxInt} {
				refuses(first, gone, come)
			}
		}
		for _, gone := range []int{minInt, minInt + 1, -3, -1} {
			for _, first := range []int{0, 3, 4, 6, 7, 8, maxInt} {
				refuses(first, gone, come)
			}
		}
		for _, c := range [][2]int{{0, 8}, {0, maxInt}, {3, 5}, {3, maxInt}, {6, 2}, {7, 1}, {7, maxInt}, {8, 0}, {8, 1}, {maxInt, 0}, {maxInt, 1}, {maxInt, maxInt}} {
			refuses(c[0], c[1], come) // more lines than there are
		}
		for _, c := range [][2]int{{1, 0}, {1, 2}, {2, 1}, {2, 5}, {5, 0}, {5, 1}, {5, 2}} {
			refuses(c[0], c[1], come) // a first within a paragraph
		}
		for _, c := range [][2]int{{0, 1}, {0, 2}, {0, 5}, {3, 2}, {4, 1}, {1, 1}, {1, 4}} {
			refuses(c[0], c[1], come) // an end within a paragraph
		}
	}
	for _, come := range wrongLists() {
		for _, c := range [][2]int{{0, 0}, {0, 3}, {0, 7}, {3, 0}, {3, 1}, {4, 2}, {6, 1}, {7, 0}} {
			refuses(c[0], c[1], come)
		}
	}
	wantBook(t, x.book, list, 30, 0, 3, 4)
}

// P13.2: all seams there are may be first and end, and no other line.
func TestReplaceSeams(t *testing.T) {
	list := document(even(3, 10), para(10), kept(even(2, 10)), ones(1))
	seams := []int{0, 3, 4, 6, 7}
	for first := -1; first <= 9; first++ {
		for end := first - 1; end <= 9; end++ {
			x := bothOf(t, list, 30, asks(1, 1))
			want := api.ErrRange
			if slices.Contains(seams, first) && slices.Contains(seams, end) && first <= end {
				want = api.OK
			}
			if _, _, e := x.replace(t, first, end-first, even(2, 4)); e != want {
				t.Errorf("Replace(%d, %d): %d, want %d", first, end-first, e, want)
			}
		}
	}
}

// P13.2: nothing by nothing: no page is built where the first page is found at once; else the page ahead, and the one that has the line, if that doesn't begin with it.
func TestReplaceNothing(t *testing.T) {
	for _, none := range [][]api.Slot{nil, {}} {
		wantReplace(t, bothOf(t, nil, 20, asks(2, 2)), 0, 0, none, 0, 0)
		wantReplace(t, bothOf(t, ones(1), 20, asks(2, 2)), 0, 0, none, 0, 0, 0)
		wantReplace(t, bothOf(t, ones(1), 20, asks(2, 2)), 1, 0, none, 0, 1, 0)
		for first, told := range [][2]int{{0, 0}, {0, 1}, {0, 1}, {0, 2}, {1, 1}, {1, 2}, {1, 2}} {
			wantReplace(t, six(t), first, 0, none, told[0], told[1], 0, 2, 4)
		}
	}
}

// P13.2: lines come, and none goes.
func TestReplaceInsert(t *testing.T) {
	none := bothOf(t, nil, 20, asks(2, 2))
	wantReplace(t, none, 0, 0, ones(5), 0, 3, 0, 2, 4)
	// At the front: one line moves all pages, two let them be found just behind come.
	wantReplace(t, six(t), 0, 0, ones(1), 0, 4, 0, 2, 4, 6)
	wantReplace(t, six(t), 0, 0, ones(2), 0, 1, 0, 2, 4, 6)
	wantReplace(t, six(t), 0, 0, ones(4), 0, 2, 0, 2, 4, 6, 8)
	wantReplace(t, six(t), 0, 0, para(20), 0, 1, 0, 1, 3, 5)
	wantReplace(t, six(t), 0, 0, kept(para(20)), 0, 4, 0, 2, 4, 6) // the first of the lines that there were stays with it, so that no page begins where one began
	// In the middle.
	wantReplace(t, six(t), 2, 0, ones(2), 0, 2, 0, 2, 4, 6)
	wantReplace(t, six(t), 3, 0, ones(2), 0, 3, 0, 2, 4, 6) // the page that has come's last line has one more
	wantReplace(t, six(t), 3, 0, ones(1), 0, 4, 0, 2, 4, 6)
	wantReplace(t, six(t), 4, 0, ones(1), 1, 3, 0, 2, 4, 6)
	wantReplace(t, six(t), 5, 0, ones(3), 1, 4, 0, 2, 4, 6, 8)
	// Behind the last line.
	wantReplace(t, six(t), 6, 0, ones(1), 1, 3, 0, 2, 4, 6)
	wantReplace(t, six(t), 6, 0, ones(2), 1, 3, 0, 2, 4, 6)
	wantReplace(t, bothOf(t, ones(5), 20, asks(2, 2)), 5, 0, ones(1), 1, 2, 0, 2, 4)
	wantReplace(t, bothOf(t, ones(1), 20, asks(2, 2)), 1, 0, ones(1), 0, 1, 0)
}

// P13.2: lines go, and none comes.
func TestReplaceDelete(t *testing.T) {
	wantReplace(t, six(t), 0, 6, nil, 0, 0)
	wantReplace(t, bothOf(t, ones(1), 20, asks(2, 2)), 0, 1, nil, 0, 0)
	// A page that is first now was found again at once.
	wantReplace(t, six(t), 0, 2, nil, 0, 0, 0, 2)
	wantReplace(t, six(t), 0, 4, nil, 0, 0, 0)
	wantReplace(t, six(t), 0, 1, nil, 0, 3, 0, 2, 4)
	wantReplace(t, six(t), 0, 3, nil, 0, 2, 0, 2)
	wantReplace(t, six(t), 0, 5, nil, 0, 1, 0)
	wantReplace(t, six(t), 2, 2, nil, 0, 1, 0, 2)
	wantReplace(t, six(t), 1, 2, nil, 0, 1, 0, 2)
	wantReplace(t, six(t), 1, 3, nil, 0, 2, 0, 2)
	wantReplace(t, six(t), 3, 1, nil, 0, 3, 0, 2, 4)
	wantReplace(t, six(t), 3, 3, nil, 0, 2, 0, 2)
	wantReplace(t, six(t), 2, 4, nil, 0, 1, 0)
	wantReplace(t, six(t), 4, 2, nil, 1, 1, 0, 2)
	wantReplace(t, six(t), 5, 1, nil, 1, 2, 0, 2, 4)
}

// P13.2: fewer by more and more by fewer, on the first page, the second and the last one, and all of them.
func TestReplaceOthers(t *testing.T) {
	wantReplace(t, six(t), 0, 6, ones(1), 0, 1, 0)
	wantReplace(t, six(t), 0, 6, ones(7), 0, 4, 0, 2, 4, 6)
	wantReplace(t, six(t), 0, 6, ones(6), 0, 3, 0, 2, 4)
	wantReplace(t, six(t), 0, 1, ones(1), 0, 1, 0, 2, 4)
	wantReplace(t, six(t), 1, 1, ones(1), 0, 1, 0, 2, 4)
	wantReplace(t, six(t), 0, 1, ones(3), 0, 2, 0, 2, 4, 6)
	wantReplace(t, six(t), 1, 1, ones(2), 0, 4, 0, 2, 4, 6)
	wantReplace(t, six(t), 2, 1, ones(1), 0, 2, 0, 2, 4)
	wantReplace(t, six(t), 2, 2, ones(1), 0, 3, 0, 2, 4)
	wantReplace(t, six(t), 2, 1, ones(3), 0, 3, 0, 2, 4, 6)
	wantReplace(t, six(t), 3, 2, ones(1), 0, 3, 0, 2, 4)
	wantReplace(t, six(t), 4, 2, ones(1), 1, 2, 0, 2, 4)
	wantReplace(t, six(t), 5, 1, ones(2), 1, 3, 0, 2, 4, 6)
	wantReplace(t, six(t), 4, 1, ones(1), 1, 2, 0, 2, 4)
	wantReplace(t, six(t), 5, 1, ones(1), 1, 2, 0, 2, 4)
	// Higher and lower lines.
	wantReplace(t, six(t), 2, 1, para(11), 0, 4, 0, 2, 3, 5)
	wantReplace(t, six(t), 2, 1, para(99), 0, 4, 0, 2, 3, 5)
	wantReplace(t, six(t), 3, 1, para(20), 0, 3, 0, 2, 3, 4)
	wantReplace(t, six(t), 2, 1, para(5), 0, 2, 0, 2, 4)
	wantReplace(t, six(t), 4, 2, document(para(5), para(5), para(5)), 1, 2, 0, 2, 4)
}

// P13.2: a page is found again further behind come: those between begin with lines with which none began.
func TestReplaceFoundLater(t *testing.T) {
	// Lines of 10, and one of 15 that brings the pages back to where they were.
	list := document(ones(5), para(15), ones(4)) // 0, 2, 4, 5, 6, 8
	wantReplace(t, bothOf(t, list, 20, asks(2, 2)), 0, 0, ones(1), 0, 3, 0, 2, 4, 6, 7, 9)
	wantReplace(t, bothOf(t, list, 20, asks(2, 2)), 0, 1, nil, 0, 2, 0, 2, 4, 5, 7)
	wantReplace(t, bothOf(t, list, 20, asks(2, 2)), 0, 1, ones(3), 0, 2, 0, 2, 4, 6, 7, 8, 10)
}

// P13.2: the page ahead of the one that had the line takes lines in, or gives some away.
func TestReplacePageAhead(t *testing.T) {
	// A part that was too high for it becomes low.
	x := bothOf(t, document(ones(1), para(20), ones(2)), 20, asks(2, 2)) // 0, 1, 2
	wantReplace(t, x, 1, 1, ones(1), 0, 1, 0, 2)
	// What stayed with the next one doesn't any more, and does again.
	x = bothOf(t, document(ones(1), kept(ones(1)), ones(4)), 20, asks(2, 2)) // 0, 1, 3, 5
	wantReplace(t, x, 1, 1, ones(1), 0, 3, 0, 2, 4)
	wantReplace(t, x, 1, 1, kept(ones(1)), 0, 4, 0, 1, 3, 5)
	// What stayed with the next one is at the document's end now.
	x = bothOf(t, document(ones(1), kept(ones(1)), para(20)), 20, asks(2, 2)) // 0, 1
	wantReplace(t, x, 2, 1, nil, 0, 1, 0)
	wantReplace(t, x, 2, 0, para(20), 0, 2, 0, 1)
	// A heading that is alone at a page's end goes to the next page with what comes behind it.
	x = bothOf(t, document(ones(3), kept(ones(1))), 20, asks(2, 2)) // 0, 2
	wantReplace(t, x, 4, 0, ones(1), 0, 3, 0, 2, 3)
}

// P13.2: orphans and widows of long paragraphs around what changes.
func TestReplaceLongParagraphs(t *testing.T) {
	list := document(even(5, 10), even(5, 10), even(5, 10))
	x := bothOf(t, list, 30, asks(2, 2)) // 0, 3, 5, 8, 10, 13
	wantReplace(t, x, 5, 5, even(4, 10), 1, 3, 0, 3, 5, 7, 9, 12)
	wantReplace(t, x, 5, 4, even(5, 10), 1, 3, 0, 3, 5, 8, 10, 13)
	wantReplace(t, x, 5, 5, nil, 1, 1, 0, 3, 5, 8)
	wantReplace(t, x, 5, 0, kept(even(2, 10)), 1, 3, 0, 3, 5, 9) // with two lines of the next one higher than a page
}

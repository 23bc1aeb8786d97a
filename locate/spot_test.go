package locate_test

import (
	"slices"
	"testing"

	"reglet/api"
	"reglet/locate"
	"reglet/metrics"
)

// wantSpot holds the Spot of a place against one written out, and against the chapter's words.
func wantSpot(t *testing.T, m *metrics.Table, list []api.Page, at int, want api.Spot, wantE api.Errno) {
	t.Helper()
	if got, e := locate.Spot(m, list, at); got != want || e != wantE {
		t.Errorf("Spot(%v, %d): %v, %d, not %v, %d", list, at, got, e, want, wantE)
	}
	holdsPlace(t, m, list, at)
}

// P15.3: Spot of each place of some pages; the lines are in the style 0 (Space 6, stretched to 7, others 7).
func TestSpot(t *testing.T) {
	m := table(t)
	list := book("a b |c\u00e9|", "", "|\u20ac\n||", "d|")
	for at, want := range []api.Spot{
		{X: 0}, {X: 7}, {X: 14}, {X: 21},
		{Line: 1, X: 0}, {Line: 1, X: 7}, {}, // 6: within a rune
		{Page: 2, Line: 1, X: 0}, {}, {}, {Page: 2, Line: 1, X: 7}, // 8, 9: within a rune
		{Page: 3, X: 0}, {Page: 3, X: 7},
	} {
		switch at {
		case 6, 8, 9:
			wantSpot(t, m, list, at, api.Spot{}, api.ErrInside)
		default:
			wantSpot(t, m, list, at, want, api.OK)
		}
	}
	for _, at := range []int{minInt, -1, 13, 14, maxInt} {
		wantSpot(t, m, list, at, api.Spot{}, api.ErrOffset)
	}
}

// P15.3: Spot at Size, where the last line has bytes, has none, or isn't on the last page.
func TestSpotAtEnd(t *testing.T) {
	m := table(t)
	wantSpot(t, m, book("ab|", ""), 2, api.Spot{X: 14}, api.OK)
	wantSpot(t, m, book("ab|", "|", ""), 2, api.Spot{Page: 1}, api.OK)
	wantSpot(t, m, book("ab |"), 3, api.Spot{X: 14}, api.OK)
	wantSpot(t, m, book("", "|"), 0, api.Spot{Page: 1}, api.OK)
	for _, list := range [][]api.Page{nil, {}, book(""), book("", "")} {
		for at := -1; at <= 1; at++ {
			wantSpot(t, m, list, at, api.Spot{}, api.ErrOffset)
		}
	}
}

// P15.3: places within runes of two, three and four bytes, at the beginning, between and at the end of a line.
func TestSpotInside(t *testing.T) {
	m := table(t)
	for _, r := range []string{"\u00e9", "\u00ad", "\u00a0", "\u20ac", "\u2028", "\u200b", "\U0001f600"} {
		for _, list := range [][]api.Page{book(r + "ab|"), book("a" + r + "b|"), book("ab" + r + "|"), book("|" + r + "|")} {
			begin, end := 0, len(r)
			for _, l := range list[0].Lines {
				if k := slices.Index([]byte(l.Text), r[0]); k >= 0 {
					begin, end = k, k+len(r)
				}
			}
			for at := begin + 1; at < end; at++ {
				wantSpot(t, m, list, at, api.Spot{}, api.ErrInside)
			}
			for _, at := range []int{begin, end} {
				if _, e := locate.Spot(m, list, at); e != api.OK {
					t.Errorf("Spot(%v, %d): %d", list, at, e)
				}
				holdsPlace(t, m, list, at)
			}
		}
	}
}

// wantHit holds what is hit at a spot against a place written out, and against the chapter's words.
func wantHit(t *testing.T, m *metrics.Table, list []api.Page, s api.Spot, want int) {
	t.Helper()
	if got, e := locate.Hit(m, list, s); got != want || e != api.OK {
		t.Errorf("Hit(%v, %v): %d, %d, not %d", list, s, got, e, want)
	}
	holdsHit(t, m, list, s)
}

// P15.3: X left of the line, on its Stops, between them and right of them all.
func TestHit(t *testing.T) {
	m := table(t)
	list := book("xx|", "a b|") // Stops of the second line: 0, 7, 14, 21
	for _, test := range []struct{ x, want int }{
		{minInt, 2}, {-1000, 2}, {-1, 2}, {0, 2}, {1, 2}, {6, 2},
		{7, 3}, {8, 3}, {13, 3},
		{14, 4}, {20, 4},
		{21, 5}, {22, 5}, {1000, 5}, {maxInt, 5},
	} {
		wantHit(t, m, list, api.Spot{Page: 1, X: test.x}, test.want)
	}
	// Runes of several bytes.
	list = book("\u00e9\u20ac\U0001f600|")
	for _, test := range []struct{ x, want int }{{-1, 0}, {0, 0}, {6, 0}, {7, 2}, {13, 2}, {14, 5}, {20, 5}, {21, 9}, {99, 9}} {
		wantHit(t, m, list, api.Spot{X: test.x}, test.want)
	}
}

// P15.3: pages and lines that there aren't: the first one, or the last one, is hit.
func TestHitBeyond(t *testing.T) {
	m := table(t)
	list := book("ab|cd|", "ef|gh|ij|")
	for _, test := range []struct{ page, line, want int }{
		{0, 0, 1}, {0, 1, 3}, {1, 0, 5}, {1, 1, 7}, {1, 2, 9},
		{-1, 0, 1}, {minInt, 1, 3}, {-1, -1, 1}, {-1, 9, 3},
		{2, 0, 5}, {3, 1, 7}, {maxInt, 2, 9}, {2, -1, 5}, {2, 3, 9},
		{0, -1, 1}, {0, minInt, 1}, {1, -1, 5},
		{0, 2, 3}, {0, maxInt, 3}, {1, 3, 9}, {1, maxInt, 9},
	} {
		wantHit(t, m, list, api.Spot{Page: test.page, Line: test.line, X: 7}, test.want)
	}
}

// P15.3: Hit of no pages, and of a page without lines, be it itself or the first or last one.
func TestHitNothing(t *testing.T) {
	m := table(t)
	for _, test := range []struct {
		list []api.Page
		s    api.Spot
	}{
		{nil, api.Spot{}}, {[]api.Page{}, api.Spot{Page: 3}}, {nil, api.Spot{Page: -1, X: 5}},
		{book(""), api.Spot{}}, {book(""), api.Spot{Line: -1}}, {book(""), api.Spot{Page: maxInt, Line: maxInt, X: maxInt}},
		{book("ab|", "", "cd|"), api.Spot{Page: 1}},
		{book("", "ab|"), api.Spot{Page: -1}}, {book("", "ab|"), api.Spot{Page: minInt}},
		{book("ab|", ""), api.Spot{Page: 1}}, {book("ab|", ""), api.Spot{Page: 2, Line: 5, X: 3}}, {book("ab|", ""), api.Spot{Page: maxInt}},
	} {
		if got, e := locate.Hit(m, test.list, test.s); got != 0 || e != api.ErrOffset {
			t.Errorf("Hit(%v, %v): %d, %d", test.list, test.s, got, e)
		}
		holdsHit(t, m, test.list, test.s)
	}
	wantHit(t, m, book("ab|", "", "cd|"), api.Spot{Page: 2}, 2)
}

// P15.3: what is hit behind all that is seen, and of lines where nothing is.
func TestHitBehind(t *testing.T) {
	m := table(t)
	for _, test := range []struct {
		text    string
		x, want int
	}{
		// Behind spaces and line ends at the end the place is behind what is seen last.
		{"ab ", 13, 1}, {"ab ", 14, 2}, {"ab ", 99, 2}, {"ab  \t", 99, 2}, {"ab\n", 14, 2}, {"ab \n", 99, 2}, {"ab\u00ad", 99, 2},
		{"ab \u200b\u2060\ufeff \u2028", 99, 2}, {"a \u00a0 ", 99, 4}, {"a - \n", 99, 3}, {"a\u20ac ", 99, 4}, {"\u00e9 \n", 7, 2}, {"a\u2010\n", 99, 4}, {"a\u202f\n", 99, 4},
		// Nothing is seen: ahead of the first rune.
		{"", 0, 0}, {"", -1, 0}, {"", 99, 0}, {" ", 0, 0}, {" ", 99, 0}, {" ", -1, 0}, {" \t ", 5, 0}, {"\n", 0, 0}, {"\n", 99, 0}, {"\n", -1, 0},
		{"\u00ad\u200b", 99, 0}, {" \u2028", 0, 0},
		// Runes without width aren't hit: the one behind them is.
		{"a\u00ad\u200bb", 6, 0}, {"a\u00ad\u200bb", 7, 6}, {"\u2060\ufeffb", 0, 6}, {"\u2060\ufeffb", -1, 0}, {"\u2060\ufeffb", 7, 7},
		{"a\n\nb", 7, 3}, {"a\u00ad\u200b", 7, 1},
	} {
		for _, ahead := range []string{"", "xyz|", "x||\u20ac|"} {
			list := book(ahead + test.text + "|")
			last := len(list[0].Lines) - 1
			begin, _ := locate.Offset(list, 0, last)
			wantHit(t, m, list, api.Spot{Line: last, X: test.x}, begin+test.want)
		}
	}
}

// P15.3: letters without width, and spaces shrunk to less than nothing, so that X falls.
func TestHitWhereWidthIsOdd(t *testing.T) {
	m := table(t)
	one := func(l api.Line) []api.Page { return []api.Page{{Lines: []api.Line{l}}} }
	flatLetters := one(api.Line{Text: "i\u00e9\u00e9i\u00e9", Runs: cut(8, ranged)}) // 0 3 3 3 6 6
	for _, test := range []struct{ x, want int }{{-1, 0}, {2, 0}, {3, 5}, {5, 5}, {6, 8}, {9, 8}} {
		wantHit(t, m, flatLetters, api.Spot{X: test.x}, test.want)
	}
	noStyle := one(api.Line{Text: "ab ", Runs: cut(3, none)}) // 0 0 0 0
	for _, test := range []struct{ x, want int }{{-1, 0}, {0, 2}, {1, 2}} {
		wantHit(t, m, noStyle, api.Spot{X: test.x}, test.want)
	}
	falling := one(api.Line{Text: "ab cd", Runs: cut(5, small), Num: -10, Den: 1}) // 0 7 14 0 7 14
	for _, test := range []struct{ x, want int }{{-1, 0}, {0, 0}, {6, 0}, {7, 1}, {13, 1}, {14, 5}, {20, 5}} {
		wantHit(t, m, falling, api.Spot{X: test.x}, test.want)
	}
	below := one(api.Line{Text: " a", Runs: cut(2, small), Num: -10, Den: 1}) // 0 -14 -7
	for _, test := range []struct{ x, want int }{{-20, 0}, {-15, 0}, {-14, 1}, {-8, 1}, {-7, 2}, {0, 2}} {
		wantHit(t, m, below, api.Spot{X: test.x}, test.want)
	}
}

// P15.5: of pages written out, with empty lines and pages ahead, between and behind.
func TestThereAndBack(t *testing.T) {
	m := table(t)
	for _, list := range [][]api.Page{
		nil, book(""), book("|"), book("ab|"), book("ab|cd|"), book("ab|", "cd|"), five(),
		book("", "||", "a|", "", "|\u00e9|", "||"), book("|a||", "|", "|b||", ""), book(" \n|\u20ac-\u00ad|", "\U0001f600\n|"),
	} {
		holdsBook(t, m, list)
	}
	list := five()
	for n, p := range list {
		for k, l := range p.Lines {
			at, _ := locate.Offset(list, n, k)
			if got, e := locate.Spot(m, list, at); l.Text != "" && got != (api.Spot{Page: n, Line: k}) || e != api.OK {
				t.Errorf("Spot of Offset of page %d, line %d: %v, %d", n, k, got, e)
			}
		}
	}
	// What is hit at a line's beginning is its first rune, and Spot of it the line's beginning, where that has a width.
	for n, p := range list {
		for k, l := range p.Lines {
			at, _ := locate.Offset(list, n, k)
			if got, e := locate.Hit(m, list, api.Spot{Page: n, Line: k}); l.Text != "" && got != at || e != api.OK {
				t.Errorf("Hit of the beginning of page %d, line %d: %d, %d", n, k, got, e)
			}
		}
	}
}

package locate_test

import (
	"testing"

	"reglet/api"
	"reglet/locate"
)

// P15.1: Size of no pages, of pages without lines, of lines without bytes, and of many.
func TestSize(t *testing.T) {
	tests := []struct {
		list []api.Page
		want int
	}{
		{nil, 0},
		{[]api.Page{}, 0},
		{book(""), 0},
		{book("", "", ""), 0},
		{book("|"), 0},
		{book("||", "", "|"), 0},
		{book("a|"), 1},
		{book("ab|c|"), 3},
		{book("ab|c|", "", "|defg||h|"), 8},
		{book("\u00e9|\u20ac\n|", "\U0001f600|"), 10}, // bytes, not runes
	}
	for _, test := range tests {
		if got := locate.Size(test.list); got != test.want {
			t.Errorf("Size(%v): %d", test.list, got)
		}
	}
	var many []api.Page
	for range 1000 {
		many = append(many, page("ab|c|"), page(""), page("\u00e9|"))
	}
	if got := locate.Size(many); got != 5000 {
		t.Errorf("Size of many pages: %d", got)
	}
	// What stands at a line's end isn't of its bytes, and runs don't make any.
	if got := locate.Size([]api.Page{{Lines: []api.Line{{Text: "ab", Runs: cut(9, 0), Hyphen: true}}}}); got != 2 {
		t.Errorf("Size with a hyphen: %d", got)
	}
}

// five: pages with lines and without, of bytes and of none.
func five() []api.Page { return book("ab|c|", "", "|de\u00e9||f|", "g|") }

// P15.1: Offset of the first line, of ones between, of ones without bytes, and of the last.
func TestOffset(t *testing.T) {
	list := five()
	tests := []struct{ page, line, want int }{
		{0, 0, 0}, {0, 1, 2}, {2, 0, 3}, {2, 1, 3}, {2, 2, 7}, {2, 3, 7}, {3, 0, 8},
	}
	for _, test := range tests {
		if got, ok := locate.Offset(list, test.page, test.line); got != test.want || !ok {
			t.Errorf("Offset(%d, %d): %d, %v", test.page, test.line, got, ok)
		}
	}
	if got, ok := locate.Offset(book("|"), 0, 0); got != 0 || !ok {
		t.Errorf("Offset of the only line, without bytes: %d, %v", got, ok)
	}
	if got, ok := locate.Offset(book("", "ab|", "|"), 2, 0); got != 2 || !ok {
		t.Errorf("Offset of the last line, without bytes: %d, %v", got, ok)
	}
}

// P15.1: Offset of lines that there aren't.
func TestNoOffset(t *testing.T) {
	list := five()
	for _, no := range [][2]int{
		{-1, 0}, {minInt, 0}, {4, 0}, {5, 0}, {maxInt, 0}, {-1, -1}, {4, 9},
		{0, -1}, {0, minInt}, {0, 2}, {0, 3}, {0, maxInt}, {1, 0}, {1, -1}, {1, 1}, {2, 4}, {3, 1}, {3, -1},
	} {
		if got, ok := locate.Offset(list, no[0], no[1]); got != 0 || ok {
			t.Errorf("Offset(%d, %d): %d, %v", no[0], no[1], got, ok)
		}
	}
	for _, list := range [][]api.Page{nil, {}, book(""), book("", "")} {
		for n := -1; n <= 2; n++ {
			if got, ok := locate.Offset(list, n, 0); got != 0 || ok {
				t.Errorf("Offset(%v, %d, 0): %d, %v", list, n, got, ok)
			}
		}
	}
}

// P15.1: Line of bytes, and of the place behind the last one.
func TestLine(t *testing.T) {
	tests := []struct {
		list []api.Page
		at   int
		want place
	}{
		{five(), 0, place{0, 0, 0}},
		{five(), 1, place{0, 0, 1}},
		{five(), 2, place{0, 1, 0}},
		{five(), 3, place{2, 1, 0}}, // behind a page's end, a page without lines and a line without bytes
		{five(), 4, place{2, 1, 1}},
		{five(), 5, place{2, 1, 2}},
		{five(), 6, place{2, 1, 3}}, // within a rune
		{five(), 7, place{2, 3, 0}}, // behind a line without bytes
		{five(), 8, place{3, 0, 0}},
		{five(), 9, place{3, 0, 1}}, // Size
		// Empty lines and pages ahead.
		{book("", "||", "", "|ab|"), 0, place{3, 1, 0}},
		{book("", "||", "", "|ab|"), 1, place{3, 1, 1}},
		// At Size, the last line of the last page that has one, with bytes and without.
		{book("ab|"), 2, place{0, 0, 2}},
		{book("ab|c|"), 3, place{0, 1, 1}},
		{book("ab|c|", "", ""), 3, place{0, 1, 1}},
		{book("ab|c||", ""), 3, place{0, 2, 0}},
		{book("ab|c|", "|", ""), 3, place{1, 0, 0}},
		{book("ab|c|", "||"), 3, place{1, 1, 0}},
		{book("ab|", "", "|", "", "||", ""), 2, place{4, 1, 0}},
		{book("|"), 0, place{0, 0, 0}},
		{book("", "||", ""), 0, place{1, 1, 0}},
	}
	for _, test := range tests {
		page, line, ahead, ok := locate.Line(test.list, test.at)
		if got := (place{page, line, ahead}); got != test.want || !ok {
			t.Errorf("Line(%v, %d): %v, %v, not %v", test.list, test.at, got, ok, test.want)
		}
	}
}

// P15.1: Line of places that there aren't: below 0, beyond Size, at Size where there is no line.
func TestNoLine(t *testing.T) {
	for _, list := range [][]api.Page{five(), book("ab|"), book("|"), book("ab|", ""), book("", "|", ""), nil, {}, book(""), book("", "")} {
		size := locate.Size(list)
		places := []int{minInt, -9, -1, size + 1, size + 2, size + 100, maxInt}
		if _, _, some := bytePlaces(list); !some {
			places = append(places, 0)
		}
		for _, at := range places {
			if page, line, ahead, ok := locate.Line(list, at); page != 0 || line != 0 || ahead != 0 || ok {
				t.Errorf("Line(%v, %d): %d, %d, %d, %v", list, at, page, line, ahead, ok)
			}
		}
	}
}

// shortBooks: all of up to three pages of some kinds.
func shortBooks(kinds ...string) [][]api.Page {
	list := [][]api.Page{nil}
	for from, n := 0, 0; n < 3; n++ {
		to := len(list)
		for _, ahead := range list[from:to] {
			for _, kind := range kinds {
				list = append(list, append(ahead[:len(ahead):len(ahead)], page(kind)))
			}
		}
		from = to
	}
	return list
}

// P15.1, P15.3, P15.5: all short books, with all their places and lines.
func TestShortBooks(t *testing.T) {
	m := table(t)
	for _, list := range shortBooks("", "|", "||", "a|", "\u00e9 |", "|b|", "c||", " |-\n|") {
		holdsBook(t, m, list)
	}
}

// P15.4: LineAt above, on, between and below the lines.
func TestLineAt(t *testing.T) {
	at := func(heights ...int) (p api.Page) {
		for _, y := range heights {
			p.Lines = append(p.Lines, api.Line{Text: "a", Height: 10, Y: y})
		}
		return p
	}
	tests := []struct {
		p    api.Page
		y    int
		want int
	}{
		{at(0), 0, 0}, {at(0), 9, 0}, {at(0), maxInt, 0}, {at(0), -1, 0}, {at(0), minInt, 0},
		{at(0, 10, 25), -1, 0}, {at(0, 10, 25), 0, 0}, {at(0, 10, 25), 1, 0}, {at(0, 10, 25), 9, 0},
		{at(0, 10, 25), 10, 1}, {at(0, 10, 25), 11, 1}, {at(0, 10, 25), 24, 1},
		{at(0, 10, 25), 25, 2}, {at(0, 10, 25), 26, 2}, {at(0, 10, 25), 1000, 2}, {at(0, 10, 25), maxInt, 2},
		// The first one's Y is above y.
		{at(5, 10), 0, 0}, {at(5, 10), 4, 0}, {at(5, 10), 5, 0}, {at(5, 10), 10, 1},
		// Y that don't rise: the last line whose Y is at most y, wherever it stands.
		{at(0, 0, 0), 0, 2}, {at(0, 0, 0), -1, 0}, {at(0, 10, 10, 20), 10, 2}, {at(0, 10, 10, 20), 9, 0},
		{at(30, 20, 10), 5, 0}, {at(30, 20, 10), 10, 2}, {at(30, 20, 10), 25, 2}, {at(30, 20, 10), 100, 2},
		{at(0, 20, 10, 30), 15, 2}, {at(0, 20, 10, 30), 20, 2}, {at(0, 30, 10, 20), 10, 2}, {at(0, 30, 10, 40), 30, 2},
		{at(20, 0, 30), 10, 1}, {at(-10, -5, 0), -7, 0}, {at(-10, -5, 0), -5, 1}, {at(minInt, maxInt), 0, 0}, {at(maxInt, minInt), 0, 1},
		{at(minInt, maxInt), minInt, 0}, {at(minInt, maxInt), maxInt, 1},
	}
	for _, test := range tests {
		if got, ok := locate.LineAt(test.p, test.y); got != test.want || !ok {
			t.Errorf("LineAt(%v, %d): %d, %v, not %d", test.p, test.y, got, ok, test.want)
		}
		holdsLineAt(t, test.p, test.y)
	}
	for _, y := range []int{minInt, -1, 0, 1, maxInt} {
		for _, p := range []api.Page{{}, {Lines: []api.Line{}}} {
			if got, ok := locate.LineAt(p, y); got != 0 || ok {
				t.Errorf("LineAt of no lines, %d: %d, %v", y, got, ok)
			}
		}
	}
}

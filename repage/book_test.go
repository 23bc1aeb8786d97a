package repage

import (
	"slices"
	"testing"

	"reglet/api"
	"reglet/measure"
)

func wrongHeights() []int {
	return []int{minInt, -1073741824, -20, -1, 0, 1073741825, 1 << 32, maxInt}
}

func wrongSettings() []api.Settings {
	return []api.Settings{{}, asks(0, 2), asks(2, 0), asks(101, 2), asks(2, 101), asks(minInt, maxInt), {Tolerance: -1, Orphans: 1, Widows: 1},
		{Line: 10001, Orphans: 1, Widows: 1}, {Adjacent: -1, Orphans: 1, Widows: 1}, {Double: 1<<20 + 1, Orphans: 1, Widows: 1}, {Last: -1, Orphans: 1, Widows: 1}}
}

// wrongLists: such as are no document's lines.
func wrongLists() [][]api.Slot {
	torn := document(even(2, 10), even(2, 10))
	torn[1].Keep = true
	return [][]api.Slot{{{}}, para(0), para(-1), para(api.MaxUnit + 1), para(10, 0), even(3, 10)[:2], even(3, 10)[1:], even(3, 10)[1:2], torn,
		document(ones(3), even(2, 10)[:1]), document(even(2, 10)[1:], ones(3)), document(even(2, 10)[:1], ones(3)), {{Height: 10, Index: -1, Count: 1}},
		{{Height: 10, Index: 0, Count: -1}}, {{Height: 10, Count: maxInt}}, {{Height: minInt, Index: maxInt, Count: minInt}}}
}

// P13.1: New tells what pages.Paginate does: the height's error, the settings', the lines'; and no book.
func TestNewErrors(t *testing.T) {
	refuses := func(list []api.Slot, height int, set api.Settings, want api.Errno) {
		t.Helper()
		if b, e := New(list, height, set); b != nil || e != want {
			t.Errorf("New(%v, %d, %v): %v, %d, want %d", list, height, set, b, e, want)
		}
	}
	lists := append(wrongLists(), nil, ones(1), ones(9))
	for _, list := range lists {
		for _, height := range wrongHeights() {
			for _, set := range append(wrongSettings(), measure.Usual()) {
				refuses(list, height, set, api.ErrWidth)
			}
		}
		for _, set := range wrongSettings() {
			refuses(list, 1, set, api.ErrSettings)
			refuses(list, api.MaxMeasure, set, api.ErrSettings)
		}
	}
	for _, list := range wrongLists() {
		for _, height := range []int{1, 20, api.MaxMeasure} {
			refuses(list, height, asks(1, 1), api.ErrRange)
		}
	}
}

// wantBook: all that a book tells, written out.
func wantBook(t *testing.T, b *Book, list []api.Slot, height int, starts ...int) {
	t.Helper()
	if b.Lines() != len(list) || b.Height() != height || !slices.Equal(b.Slots(), list) || !slices.Equal(b.Starts(), starts) {
		t.Errorf("%d lines %v, height %d, pages begin with %v, want %d lines %v, height %d, pages begin with %v", b.Lines(), b.Slots(), b.Height(), b.Starts(), len(list), list, height, starts)
	}
}

// P13.1: books of no lines, of one and of many.
func TestNew(t *testing.T) {
	for _, height := range []int{1, 9, 10, 500, api.MaxMeasure} {
		for _, none := range [][]api.Slot{nil, {}, ones(3)[:0]} {
			wantBook(t, made(t, none, height, asks(2, 2)), nil, height)
		}
		for _, one := range [][]api.Slot{ones(1), kept(ones(1)), para(1), para(api.MaxUnit)} {
			wantBook(t, made(t, one, height, asks(1, 100)), one, height, 0)
		}
	}
	wantBook(t, made(t, ones(6), 20, asks(2, 2)), ones(6), 20, 0, 2, 4)
	wantBook(t, made(t, ones(6), 1, asks(2, 2)), ones(6), 1, 0, 1, 2, 3, 4, 5)
	wantBook(t, made(t, ones(6), api.MaxMeasure, asks(2, 2)), ones(6), api.MaxMeasure, 0)
	wantBook(t, made(t, even(5, 10), 30, asks(2, 2)), even(5, 10), 30, 0, 3)
	wantBook(t, made(t, even(5, 10), 30, asks(2, 3)), even(5, 10), 30, 0, 2)
	mixed := document(para(5, 6), kept(para(7)), para(1, 2, 3, 4), kept(para(9, 9)))
	wantBook(t, made(t, mixed, 20, asks(2, 2)), mixed, 20, 0, 2, 7)
}

// P13.1: a copy is alike, whatever was done with the book.
func TestCopyIsAlike(t *testing.T) {
	for _, list := range [][]api.Slot{nil, ones(1), ones(6), document(even(5, 10), kept(para(7)), para(3, 3))} {
		x := bothOf(t, list, 20, asks(2, 1))
		c := x.copy()
		c.plain.agree(t, c.book)
		x.replace(t, 0, 0, even(4, 6))
		x.resize(t, 31)
		x.replace(t, 4, 0, kept(para(3)))
		c.plain.agree(t, c.book)
		again := x.copy().copy()
		again.plain.agree(t, again.book)
		x.resize(t, 12)
		again.plain.agree(t, again.book)
	}
}

// P13.1: a copy has the settings as well: what is done with it is what would be done with the original.
func TestCopyGoesOn(t *testing.T) {
	for _, set := range []api.Settings{asks(1, 1), asks(2, 2), asks(1, 3), asks(100, 100)} {
		x := bothOf(t, even(6, 10), 20, set)
		c := x.copy()
		c.resize(t, 30)
		c.replace(t, 6, 0, even(7, 10))
		c.resize(t, 20)
		x.plain.agree(t, x.book)
		x.replace(t, 0, 6, even(9, 10))
		c.plain.agree(t, c.book)
	}
}

// P13.1: a copy and its original go their own ways.
func TestCopyIsApart(t *testing.T) {
	calls := map[string]func(b *Book){
		"Replace in place": func(b *Book) { b.Replace(1, 2, []api.Slot{{Height: 9, Count: 1}, {Height: 19, Count: 1}}) },
		"Replace by more":  func(b *Book) { b.Replace(3, 1, ones(5)) },
		"Replace by fewer": func(b *Book) { b.Replace(0, 5, ones(1)) },
		"Replace of all":   func(b *Book) { b.Replace(0, 6, nil) },
		"Resize":           func(b *Book) { b.Resize(30) },
		"Resize to less":   func(b *Book) { b.Resize(5) },
	}
	for name, call := range calls {
		one := made(t, ones(6), 20, asks(2, 2))
		other := one.Copy()
		call(one)
		wantBook(t, other, ones(6), 20, 0, 2, 4)
		third := other.Copy()
		call(third)
		wantBook(t, other, ones(6), 20, 0, 2, 4)
		if !slices.Equal(one.Slots(), third.Slots()) || !slices.Equal(one.Starts(), third.Starts()) || one.Height() != third.Height() {
			t.Errorf("%s of a copy: %v, %v, of the original %v, %v", name, third.Slots(), third.Starts(), one.Slots(), one.Starts())
		}
	}
}

// P13.3: Resize with heights that may not be changes nothing.
func TestResizeErrors(t *testing.T) {
	for _, list := range [][]api.Slot{nil, ones(1), ones(6)} {
		x := bothOf(t, list, 20, asks(2, 2))
		for _, height := range wrongHeights() {
			if many, e := x.resize(t, height); many != 0 || e != api.ErrWidth {
				t.Errorf("Resize(%d): %d, %d", height, many, e)
			}
		}
		x.replace(t, 0, 0, ones(3))
	}
}

// P13.3: Resize up and down and back again.
func TestResize(t *testing.T) {
	b := made(t, ones(6), 20, asks(2, 2))
	for _, c := range []struct {
		height int
		starts []int
	}{
		{30, []int{0, 3}}, {20, []int{0, 2, 4}}, {10, []int{0, 1, 2, 3, 4, 5}}, {59, []int{0, 5}}, {60, []int{0}}, {api.MaxMeasure, []int{0}}, {1, []int{0, 1, 2, 3, 4, 5}}, {1, []int{0, 1, 2, 3, 4, 5}}, {20, []int{0, 2, 4}},
	} {
		if many, e := b.Resize(c.height); many != len(c.starts) || e != api.OK {
			t.Errorf("Resize(%d): %d, %d", c.height, many, e)
		}
		wantBook(t, b, ones(6), c.height, c.starts...)
	}
	none := made(t, nil, 20, asks(2, 2))
	if many, e := none.Resize(7); many != 0 || e != api.OK {
		t.Errorf("Resize of no lines: %d, %d", many, e)
	}
	wantBook(t, none, nil, 7)
}

// P13.3, P13.4: with all heights there and back, and what is replaced then is laid by the height that is.
func TestResizeAndReplace(t *testing.T) {
	list := document(even(5, 7), kept(para(9)), para(4, 4, 4, 4), para(30), even(3, 2))
	for _, set := range []api.Settings{asks(1, 1), asks(2, 2), asks(3, 1)} {
		x := bothOf(t, list, 20, set)
		for height := 1; height < 100; height++ {
			x.resize(t, height)
			x.replace(t, 5, 1, kept(para(height%11+1)))
		}
		for height := 100; height > 0; height -= 3 {
			x.resize(t, height)
			x.replace(t, 10, 1, ones(height%3))
			x.replace(t, 10, height%3, ones(1))
		}
	}
}

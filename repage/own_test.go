package repage

import (
	"slices"
	"testing"

	"reglet/api"
)

// spoil changes a list, with its spare room.
func spoil[T any](list []T, by T) {
	list = list[:cap(list)]
	for k := range list {
		list[k] = by
	}
}

var spoilt = api.Slot{Height: 77, Index: 7, Count: 777, Keep: true}

// P2, rule 4: what is handed in isn't changed, with its spare room.
func TestHandedInIsNotChanged(t *testing.T) {
	room := document(ones(6), even(3, 77), kept(ones(3)))
	want := slices.Clone(room)
	for _, many := range []int{0, 1, 6, 9} {
		b := made(t, room[:many], 20, asks(2, 2))
		for _, come := range [][]api.Slot{room[6:9:12], room[:0], room[6:6], room[:1], room[3:8]} {
			b.Replace(0, 0, come)
			b.Replace(b.Lines(), 0, come)
			b.Replace(0, b.Lines()/2, come)
			b.Replace(b.Lines(), 0, ones(9))
			b.Replace(0, b.Lines(), ones(2))
			b.Replace(0, 2, come)
			b.Resize(30)
			b.Copy().Replace(0, 0, come)
		}
	}
	if !slices.Equal(room, want) {
		t.Errorf("what was handed in became %v", room)
	}
}

// P2, rule 4: what is handed in isn't kept: a later change of it isn't seen in the book.
func TestHandedInIsNotKept(t *testing.T) {
	list, come := ones(6), even(3, 5)
	b := made(t, list, 20, asks(2, 2))
	spoil(list, spoilt)
	wantBook(t, b, ones(6), 20, 0, 2, 4)
	b.Replace(1, 3, come)
	spoil(come, spoilt)
	wantBook(t, b, document(ones(1), even(3, 5), ones(2)), 20, 0, 1, 4)

	none := made(t, nil, 20, asks(2, 2))
	first := ones(4)
	none.Replace(0, 0, first)
	spoil(first, spoilt)
	wantBook(t, none, ones(4), 20, 0, 2)

	all := ones(4)
	none.Replace(0, 4, all)
	spoil(all, spoilt)
	wantBook(t, none, ones(4), 20, 0, 2)
}

// P2, rule 4: what is told is new memory each time, whatever was called ahead of it.
func TestToldIsNew(t *testing.T) {
	check := func(b *Book) {
		t.Helper()
		list, starts := slices.Clone(b.Slots()), slices.Clone(b.Starts())
		otherList, otherStarts := b.Slots(), b.Starts()
		spoil(b.Slots(), spoilt)
		spoil(b.Starts(), -77)
		if !slices.Equal(otherList, list) || !slices.Equal(otherStarts, starts) {
			t.Errorf("what was told ahead became %v and %v", otherList, otherStarts)
		}
		wantBook(t, b, list, b.Height(), starts...)
	}
	b := made(t, ones(6), 20, asks(2, 2))
	check(b)
	b.Replace(2, 3, ones(7))
	check(b)
	b.Replace(2, 6, nil)
	check(b)
	b.Resize(30)
	check(b)
	check(b.Copy())
	b.Replace(0, b.Lines(), nil)
	check(b)
}

// P2, rule 4: what was told ahead of a call stays as it was told.
func TestToldStays(t *testing.T) {
	b := made(t, ones(6), 20, asks(2, 2))
	list, starts := b.Slots(), b.Starts()
	b.Replace(0, 2, document(para(3), para(4)))
	b.Replace(3, 2, nil)
	b.Replace(0, 0, ones(2))
	b.Resize(10)
	if !slices.Equal(list, ones(6)) || !slices.Equal(starts, []int{0, 2, 4}) {
		t.Errorf("what was told became %v and %v", list, starts)
	}
}

// Rule 4: lines that were told are handed in again, to the same book.
func TestToldHandedIn(t *testing.T) {
	x := bothOf(t, document(even(3, 10), ones(2), kept(even(2, 6))), 20, asks(2, 2))
	for range 4 {
		x.replace(t, 3, 1, x.book.Slots())
		x.replace(t, 0, 3, x.book.Slots()[:3])
	}
}

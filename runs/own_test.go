package runs

import (
	"slices"
	"testing"

	"reglet/api"
)

// P5.4: a Copy and its original go their own ways.
func TestCopy(t *testing.T) {
	edits := []func(l *List){
		func(l *List) { l.Set(0, 3, 9) },
		func(l *List) { l.Insert(6, 3) },
		func(l *List) { l.Insert(3, 3) },
		func(l *List) { l.Delete(0, 6) },
		func(l *List) { l.Delete(5, 6) },
		func(l *List) { l.Lay(2, []api.Run{{Len: 1, Style: 8}, {Len: 2, Style: 7}}) },
	}
	for i, edit := range edits {
		before := three(t).Runs()
		alone := three(t)
		edit(alone)
		if slices.Equal(alone.Runs(), before) {
			t.Errorf("edit %d changed nothing", i)
		}
		for _, other := range edits {
			l := three(t)
			k := l.Copy()
			wantRuns(t, k, before...)
			other(l)
			wantRuns(t, k, before...)
			edit(k)
			wantRuns(t, k, alone.Runs()...)

			l = three(t)
			k = l.Copy()
			other(k)
			wantRuns(t, l, before...)
			edit(l)
			wantRuns(t, l, alone.Runs()...)
		}
	}
}

// P5.4: a copy of a list without bytes has the style near it, and keeps it.
func TestCopyOfNone(t *testing.T) {
	l, _ := New(0, 6)
	k := l.Copy()
	l.Insert(0, 1)
	l.Set(0, 1, 2)
	l.Delete(0, 1)
	wantNear(t, l, 0, 2, api.OK)
	wantNear(t, k, 0, 6, api.OK)
	if l == k {
		t.Error("a copy is the list itself")
	}
}

// Rule 4: what Runs and Slice told stays as it was told, and what is done to it leaves the list.
func TestToldStays(t *testing.T) {
	l := three(t)
	before := slices.Clone(l.Runs())
	told := l.Runs()
	again := l.Runs()
	part, _ := l.Slice(0, 6)
	for _, list := range [][]api.Run{told, part} {
		full := list[:cap(list)]
		for i := range full {
			full[i] = api.Run{Len: 99, Style: 99}
		}
	}
	wantRuns(t, l, before...)
	if !slices.Equal(again, before) {
		t.Errorf("another answer became %v", again)
	}

	part, _ = l.Slice(1, 4)
	wantPart := slices.Clone(part)
	l.Set(0, 6, 9)
	l.Insert(3, 4)
	l.Delete(0, 8)
	l.Lay(0, []api.Run{{Len: 1, Style: 5}})
	if !slices.Equal(again, before) || !slices.Equal(part, wantPart) {
		t.Errorf("what was told became %v and %v", again, part)
	}
}

// Rule 4: the list that is laid is neither changed nor kept, its spare room neither.
func TestLaidIsNotKept(t *testing.T) {
	l := three(t)
	room := []api.Run{{Len: 1, Style: 5}, {Len: 1, Style: 5}, {Len: 1, Style: 6}, {Len: 77, Style: 77}, {Len: 78, Style: 78}}
	want := slices.Clone(room)
	if err := l.Lay(1, room[:3]); err != api.OK {
		t.Fatalf("Lay: %d", err)
	}
	if !slices.Equal(room, want) {
		t.Errorf("Lay made %v of its list", room)
	}
	after := l.Runs()
	for i := range room {
		room[i] = api.Run{Len: 9, Style: 9}
	}
	wantRuns(t, l, after...)
}

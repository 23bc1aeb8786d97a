package items_test

import (
	"slices"
	"strings"
	"testing"

	"reglet/api"
	"reglet/items"
	"reglet/metrics"
)

// Rule 4: what is handed in isn't changed, with its spare room, nor is it kept.
func TestHandedIn(t *testing.T) {
	m := made(t, styles())
	const text = "a-b c\u00add\u2028e\n"
	for _, list := range [][]api.Run{runs(3, 0, 8, 1, 1, 2), runs(3, 0, -1, 1), runs(len(text), 9), runs(7, 0), runs(3, 0, 8, 1, 0, 0, 1, 2), runs(6, 0)} {
		room := append(slices.Clone(list), runs(77, 7, 78, 8)...)
		before := slices.Clone(room)
		given := room[:len(list)]
		items.Check(m, text, given)
		got, _ := items.Build(m, text, given)
		kept := slices.Clone(got)
		if !slices.Equal(room, before) {
			t.Errorf("the runs became %v", room)
		}
		for k := range room {
			room[k] = api.Run{Len: 1, Style: 1}
		}
		if !slices.Equal(got, kept) {
			t.Errorf("the items became %v", got)
		}
		again, _ := items.Build(m, text, before[:len(list)])
		if !slices.Equal(again, kept) {
			t.Errorf("the next call told %v", again)
		}
	}
	if !metrics.Same(m, made(t, styles())) {
		t.Error("the table became another one")
	}
}

// Rule 4: Right, Legal and Forced change nothing.
func TestAskedAlone(t *testing.T) {
	for _, list := range [][]api.Item{usual(), usual()[:3], {{Kind: 9, Width: -1, Cost: 77, Fill: true, Flag: true, From: 5, To: 1}}} {
		room := append(slices.Clone(list), api.Item{Kind: 8, Cost: 3}, api.Item{Kind: 7})
		before := slices.Clone(room)
		given := room[:len(list)]
		first := items.Right(given)
		for k := -1; k <= len(given); k++ {
			items.Legal(given, k)
		}
		for _, x := range given {
			items.Forced(x)
		}
		if second := items.Right(given); !slices.Equal(room, before) || first != second {
			t.Errorf("the items became %v; Right: %d, then %d", room, first, second)
		}
	}
}

// Rule 4: what Build told is the caller's own, with its spare room: another answer stays as it was.
func TestBuildIsNew(t *testing.T) {
	m := made(t, styles())
	for _, text := range []string{"a", "a b-c\n", "\n", strings.Repeat("a b\u00ad", 50)} {
		first, _ := items.Build(m, text, whole(text, 0))
		second, _ := items.Build(m, text, whole(text, 0))
		before := slices.Clone(second)
		full := first[:cap(first)]
		for k := range full {
			full[k] = api.Item{Kind: 99, Width: 98}
		}
		third, _ := items.Build(m, text, whole(text, 0))
		if !slices.Equal(second, before) || !slices.Equal(third, before) {
			t.Errorf("other answers of %q became %v and %v", text, second, third)
		}
	}
}

// Rules 2 and 3: beside an error there are no items, and the next call is as if there had been none.
func TestRefused(t *testing.T) {
	m := made(t, styles())
	const text = "a\u00e9 b"
	want, _ := items.Build(m, text, whole(text, 1))
	for _, list := range [][]api.Run{nil, runs(-1, 0), runs(9, 0), runs(5, 3), runs(2, 0, 3, 0), runs(4, 0)} {
		if got, e := items.Build(m, text, list); e == api.OK || len(got) != 0 {
			t.Errorf("Build with %v: %v, %d", list, got, e)
		}
		if got, e := items.Build(m, text, whole(text, 1)); e != api.OK || !slices.Equal(got, want) {
			t.Errorf("Build behind a refused one: %v, %d", got, e)
		}
	}
}

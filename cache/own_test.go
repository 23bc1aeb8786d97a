package cache

import (
	"math"
	"slices"
	"testing"

	"reglet/api"
)

// spoil changes runs, with their spare room.
func spoil(list []api.Run) {
	list = list[:cap(list)]
	for i := range list {
		list[i] = api.Run{Len: 77, Style: 7}
	}
}

// roomy: a key whose runs have spare room, and all of that.
func roomy() (Key, []api.Run) {
	room := cut(1, 1, 2, 2, 55, 5, 66, 6)
	return Key{Text: "abc", Runs: room[:2], Width: 9}, room
}

// Rule 4: a key that is handed in isn't changed, with its runs' spare room.
func TestHandedInIsNotChanged(t *testing.T) {
	k, room := roomy()
	want := slices.Clone(room)
	c := made[int](t, 1)
	for range 2 {
		c.Get(k)
		c.Put(k, 1)
		c.Put(text("other"), 1)
		c.Put(k, 1)
		Hash(k)
		Alike(k, k)
	}
	c.Keys()
	c.Clear()
	if !slices.Equal(room, want) {
		t.Errorf("the runs became %v", room)
	}
}

// Rule 4: a key that is handed in isn't kept: what becomes of its runs later isn't seen.
func TestHandedInIsNotKept(t *testing.T) {
	k, room := roomy()
	want, _ := roomy()
	c := made[int](t, 2)
	c.Put(k, 1)
	spoil(room)
	wantKeys(t, c, want)
	wantGet(t, c, want, 1, true)
	wantGet(t, c, k, 0, false)

	again, room := roomy()
	c.Get(again)
	c.Put(again, 2)
	spoil(room)
	wantKeys(t, c, want)
	wantGet(t, c, want, 2, true)
	wantSound(t, c)
}

// Rule 4: what Keys told is the asker's, and stays as it was told.
func TestToldIsNew(t *testing.T) {
	k, _ := roomy()
	other := styled(text("other"), 2, 3, 3, 4)
	c := made[int](t, 2)
	c.Put(k, 1)
	c.Put(other, 2)
	told, again := c.Keys(), c.Keys()
	spoil(told[0].Runs)
	if !toTheLetter(told[1], k) {
		t.Errorf("a change of one key made %+v of the next", told[1])
	}
	spoil(told[1].Runs)
	for i := range told[:cap(told)] {
		told[:cap(told)][i] = Key{Text: "spoilt"}
	}
	if !slices.EqualFunc(again, []Key{other, k}, toTheLetter) {
		t.Errorf("another answer became %+v", again)
	}
	wantKeys(t, c, other, k)
	wantGet(t, c, k, 1, true)
	wantGet(t, c, other, 2, true)
	wantSound(t, c)

	c.Get(other)
	c.Put(text("third"), 3)
	c.Clear()
	c.Put(text("fourth"), 4)
	if !slices.EqualFunc(again, []Key{other, k}, toTheLetter) {
		t.Errorf("what was told became %+v", again)
	}
}

// Rule 4: caches know nothing of each other.
func TestCachesApart(t *testing.T) {
	a, b := made[int](t, 2), made[int](t, 2)
	a.Put(text("x"), 1)
	wantGet(t, b, text("x"), 0, false)
	b.Put(text("x"), 2)
	wantGet(t, a, text("x"), 1, true)
	b.Clear()
	wantGet(t, a, text("x"), 1, true)
	wantAsked(t, a, 2, 0)
	wantAsked(t, b, 0, 1)
}

// P11.1, P11.5: values of many types: the very ones that were put come back, and zero values where there are none.
func TestValues(t *testing.T) {
	k, none := text("k"), text("none")

	lists := made[[]api.Line](t, 1)
	list := []api.Line{{Text: "a"}, {Text: "b"}}
	lists.Put(k, list)
	if v, ok := lists.Get(k); !ok || len(v) != 2 || &v[0] != &list[0] {
		t.Errorf("a list: %v, %v", v, ok)
	}
	if v, ok := lists.Get(none); ok || v != nil {
		t.Errorf("no list: %v, %v", v, ok)
	}
	lists.Put(k, nil)
	if v, ok := lists.Get(k); !ok || v != nil {
		t.Errorf("a nil list: %v, %v", v, ok)
	}

	pointers := made[*int](t, 1)
	one := new(int)
	pointers.Put(k, one)
	wantGet(t, pointers, k, one, true)
	wantGet(t, pointers, none, nil, false)

	structs := made[struct{ a, b string }](t, 1)
	structs.Put(k, struct{ a, b string }{"x", "y"})
	wantGet(t, structs, k, struct{ a, b string }{"x", "y"}, true)
	wantGet(t, structs, none, struct{ a, b string }{}, false)

	anything := made[any](t, 1)
	anything.Put(k, 5)
	wantGet(t, anything, k, any(5), true)
	wantGet(t, anything, none, nil, false)

	floats := made[float64](t, 1)
	floats.Put(k, math.NaN())
	if v, ok := floats.Get(k); !ok || v == v {
		t.Errorf("no number: %v, %v", v, ok)
	}

	calls := made[func() int](t, 1)
	calls.Put(k, func() int { return 6 })
	if v, ok := calls.Get(k); !ok || v() != 6 {
		t.Errorf("a function: %v", ok)
	}
	if v, ok := calls.Get(none); ok || v != nil {
		t.Errorf("no function: %v", ok)
	}
}

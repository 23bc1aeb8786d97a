package cache

import (
	"slices"
	"strconv"
	"testing"

	"reglet/api"
)

// P11.1.
func TestNew(t *testing.T) {
	for _, room := range []int{minInt, -4096, -2, -1, 4097, 4098, 1 << 32, maxInt} {
		if c, e := New[int](room); c != nil || e != api.ErrRange {
			t.Errorf("New(%d): %v, %d", room, c, e)
		}
		if c, e := New[[]string](room); c != nil || e != api.ErrRange {
			t.Errorf("New(%d): %v, %d", room, c, e)
		}
	}
	for _, room := range []int{0, 1, 2, 3, 100, 4095, 4096} {
		c := made[int](t, room)
		if c.Room() != room {
			t.Errorf("Room of New(%d): %d", room, c.Room())
		}
		wantKeys(t, c)
		wantAsked(t, c, 0, 0)
		wantGet(t, c, Key{}, 0, false)
		wantAsked(t, c, 0, 1)
	}
}

// P11.1: Get of a key that was never put, put once, put twice, pushed out, put anew, cleared; and Asked behind each.
func TestGet(t *testing.T) {
	c := made[string](t, 2)
	a, b, d := text("a"), text("b"), text("d")
	wantGet(t, c, a, "", false)
	wantAsked(t, c, 0, 1)
	c.Put(a, "once")
	wantAsked(t, c, 0, 1)
	wantGet(t, c, a, "once", true)
	wantAsked(t, c, 1, 1)
	wantGet(t, c, a, "once", true)
	wantAsked(t, c, 2, 1)
	c.Put(a, "twice")
	wantGet(t, c, a, "twice", true)
	wantAsked(t, c, 3, 1)
	wantGet(t, c, b, "", false)
	wantAsked(t, c, 3, 2)
	c.Put(b, "b")
	c.Put(d, "d")
	wantGet(t, c, a, "", false)
	wantAsked(t, c, 3, 3)
	wantGet(t, c, b, "b", true)
	wantGet(t, c, d, "d", true)
	wantAsked(t, c, 5, 3)
	c.Put(a, "anew")
	wantGet(t, c, a, "anew", true)
	wantGet(t, c, b, "", false)
	wantAsked(t, c, 6, 4)
	c.Clear()
	wantAsked(t, c, 6, 4)
	for _, k := range []Key{a, b, d} {
		wantGet(t, c, k, "", false)
	}
	wantAsked(t, c, 6, 7)
}

// P11.1: only Gets are counted.
func TestAskedCountsGetsAlone(t *testing.T) {
	c := made[int](t, 1)
	for n, k := range []Key{text("a"), text("a"), text("b"), text("a")} {
		c.Put(k, n)
		c.Keys()
		c.Len()
		c.Room()
		Hash(k)
		Alike(k, k)
		c.Asked()
	}
	c.Clear()
	wantAsked(t, c, 0, 0)
}

// P11.1: what a Get finds comes to the front, so that another goes first; what it doesn't find changes no place.
func TestGetBringsToFront(t *testing.T) {
	list := []Key{text("a"), text("b"), text("c"), text("d")}
	for n, k := range list {
		c := made[int](t, len(list))
		for v, k := range list {
			c.Put(k, v)
		}
		wantKeys(t, c, list[3], list[2], list[1], list[0])
		wantGet(t, c, text("e"), 0, false)
		wantKeys(t, c, list[3], list[2], list[1], list[0])
		wantGet(t, c, k, n, true)
		rest := slices.Delete(slices.Clone(list), n, n+1)
		wantKeys(t, c, k, rest[2], rest[1], rest[0])
		c.Put(text("e"), 9)
		wantKeys(t, c, text("e"), k, rest[2], rest[1])
		wantGet(t, c, rest[0], 0, false)
		wantGet(t, c, k, n, true)
		wantSound(t, c)
	}
}

// The chapter's example.
func TestExample(t *testing.T) {
	c := made[int](t, 2)
	c.Put(text("a"), 1)
	c.Put(text("b"), 2)
	c.Get(text("a"))
	c.Put(text("c"), 3)
	wantKeys(t, c, text("c"), text("a"))
	wantGet(t, c, text("b"), 0, false)
	wantGet(t, c, text("a"), 1, true)
	wantGet(t, c, text("c"), 3, true)
}

// P11.2: with room 0 nothing is put.
func TestNoRoom(t *testing.T) {
	c := made[int](t, 0)
	for n := range 3 {
		c.Put(text("a"), n)
		c.Put(Key{}, n)
		wantKeys(t, c)
		wantGet(t, c, text("a"), 0, false)
		wantGet(t, c, Key{}, 0, false)
		wantAsked(t, c, 0, 2*n+2)
		wantSound(t, c)
	}
	c.Clear()
	wantKeys(t, c)
	wantAsked(t, c, 0, 6)
}

// P11.2: a key that is there gets the new value and comes to the front; none goes, and Keys has the key that was put first.
func TestPutOfOneThatIsThere(t *testing.T) {
	c := made[int](t, 3)
	a, b, d := styled(text("aaa"), 3, 1), text("b"), text("d")
	again := styled(text("aaa"), 1, 1, 0, 5, 2, 1)
	third := styled(text("aaa"), 2, 1, 1, 1)
	c.Put(a, 1)
	c.Put(b, 2)
	c.Put(d, 3)
	c.Put(again, 4)
	wantKeys(t, c, a, d, b)
	wantGet(t, c, a, 4, true)
	wantGet(t, c, again, 4, true)
	c.Put(again, 5) // at the front already
	wantKeys(t, c, a, d, b)
	c.Put(d, 6) // from the middle
	wantKeys(t, c, d, a, b)
	wantGet(t, c, third, 5, true)
	wantKeys(t, c, a, d, b)
	wantGet(t, c, b, 2, true)
	wantGet(t, c, d, 6, true)
	wantKeys(t, c, d, b, a)

	// Once it went, the key that is put then is the one.
	c.Put(text("e"), 7)
	c.Put(third, 8)
	wantKeys(t, c, third, text("e"), d)
	c.Put(a, 9)
	wantKeys(t, c, third, text("e"), d)
	wantGet(t, c, again, 9, true)
	c.Clear()
	c.Put(again, 10)
	c.Put(a, 11)
	wantKeys(t, c, again)
	wantGet(t, c, third, 11, true)
	wantSound(t, c)
}

// numbered: the key of a number.
func numbered(n int) Key { return text("paragraph " + strconv.Itoa(n)) }

// P11.2, P11.4: where there is no room, the one at the end goes, and no other.
func TestFull(t *testing.T) {
	for _, room := range []int{1, 2, 3, 7, 4096} {
		c := made[int](t, room)
		for n := range room + 5 {
			c.Put(numbered(n), n)
			if want := min(n+1, room); c.Len() != want {
				t.Fatalf("room %d: Len %d behind %d Puts", room, c.Len(), n+1)
			}
			if gone := n - room; gone >= 0 {
				wantGet(t, c, numbered(gone), 0, false)
			}
		}
		var want []Key
		for n := room + 4; n >= 5; n-- {
			want = append(want, numbered(n))
		}
		wantKeys(t, c, want...)
		for n := 5; n < room+5; n++ {
			wantGet(t, c, numbered(n), n, true)
		}
		wantSound(t, c)
	}
}

// P11.2: with room 1 each key pushes the one out that is there, but for keys alike.
func TestRoomForOne(t *testing.T) {
	c := made[int](t, 1)
	a, b := text("a"), text("b")
	c.Put(a, 1)
	c.Put(a, 2)
	wantGet(t, c, a, 2, true)
	c.Put(b, 3)
	wantGet(t, c, a, 0, false)
	wantGet(t, c, b, 3, true)
	wantKeys(t, c, b)
	c.Put(a, 4)
	wantGet(t, c, b, 0, false)
	wantGet(t, c, a, 4, true)
	wantKeys(t, c, a)
	wantSound(t, c)
}

// P11.2: a cache that was cleared is as a new one, but for Asked.
func TestClear(t *testing.T) {
	c := made[int](t, 3)
	for turn := range 4 {
		for n := range turn + 2 {
			c.Put(numbered(n), 10*turn+n)
		}
		wantGet(t, c, numbered(turn+1), 10*turn+turn+1, true)
		wantGet(t, c, numbered(99), 0, false)
		c.Clear()
		wantKeys(t, c)
		wantSound(t, c)
		if c.Room() != 3 {
			t.Errorf("Room %d", c.Room())
		}
		wantAsked(t, c, turn+1, turn+1)
	}
	c.Clear()
	wantKeys(t, c)
	for n := range 3 {
		c.Put(numbered(n), n)
	}
	wantKeys(t, c, numbered(2), numbered(1), numbered(0))
	c.Put(numbered(3), 3)
	wantKeys(t, c, numbered(3), numbered(2), numbered(1))
	wantGet(t, c, numbered(0), 0, false)
	wantGet(t, c, numbered(1), 1, true)
	wantSound(t, c)
}

// P1: keys of which nothing could be laid out are keys too.
func TestRawKeys(t *testing.T) {
	wide := Key{Text: "\xff\x00\xed\xa0\x80", Runs: cut(minInt, maxInt, maxInt, minInt, maxInt, -1, 0, 0), Table: minInt, Width: maxInt,
		Set: api.Settings{Tolerance: minInt, Line: maxInt, Adjacent: -1, Double: minInt, Last: maxInt, Orphans: minInt, Widows: maxInt}}
	long := text(string(make([]byte, 1<<17)))
	longer := text(string(make([]byte, 1<<17+1)))
	list := []Key{{}, wide, long, longer}
	c := made[int](t, 4)
	for n, k := range list {
		c.Put(k, n)
	}
	for n, k := range list {
		wantGet(t, c, k, n, true)
	}
	wantKeys(t, c, longer, long, wide, Key{})
}

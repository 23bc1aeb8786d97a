package marks

import (
	"testing"

	"reglet/api"
)

// everywhere: a mark that doesn't stay and one that does at each place of a text: behind the one at at the numbers are 2*at+1, 2*at+2.
func everywhere(t *testing.T, size int) both {
	t.Helper()
	x := bothOf(t, size)
	for at := range size + 1 {
		x.put(t, at, false)
		x.put(t, at, true)
	}
	return x
}

func wantAt(t *testing.T, s *Set, from string, want ...int) {
	t.Helper()
	for n, at := range want {
		if m, e := s.Get(n + 1); m.At != at || e != api.OK {
			t.Errorf("%s: mark %d at %d (%d), want %d", from, n+1, m.At, e, at)
		}
	}
}

// The chapter's examples.
func TestExamples(t *testing.T) {
	s := made(t, 5)
	s.Put(3, false)
	s.Insert(1, 2)
	wantAt(t, s, "Insert(1, 2)", 5)
	s = made(t, 5)
	s.Put(3, false)
	s.Put(3, true)
	s.Insert(3, 2)
	wantAt(t, s, "Insert(3, 2)", 5, 3)
}

// P16.2: Insert at 0, in the middle and at Size, at, ahead of and behind marks of both kinds, of no byte, of one and of many.
func TestInsert(t *testing.T) {
	for _, n := range []int{0, 1, 2, 1000, 65533} {
		for _, c := range []struct {
			at   int
			want []int
		}{
			{0, []int{n, 0, 1 + n, 1 + n, 2 + n, 2 + n, 3 + n, 3 + n}},
			{1, []int{0, 0, 1 + n, 1, 2 + n, 2 + n, 3 + n, 3 + n}},
			{2, []int{0, 0, 1, 1, 2 + n, 2, 3 + n, 3 + n}},
			{3, []int{0, 0, 1, 1, 2, 2, 3 + n, 3}},
		} {
			x := everywhere(t, 3)
			if e := x.insert(t, c.at, n); e != api.OK {
				t.Errorf("Insert(%d, %d): %d", c.at, n, e)
			}
			wantAt(t, x.set, "Insert", c.want...)
			x.agree(t)
		}
	}
}

// P16.2: several marks at one place, put in any order.
func TestInsertAtSeveral(t *testing.T) {
	x := bothOf(t, 9, stays(4), goes(4), goes(4), stays(4), goes(4), stays(3), goes(5))
	x.insert(t, 4, 2)
	wantAll(t, x.set, 11, Mark{6, 3, true}, Mark{1, 4, true}, Mark{4, 4, true}, Mark{2, 6, false}, Mark{3, 6, false}, Mark{5, 6, false}, Mark{7, 7, false})
	x.insert(t, 4, 1)
	x.insert(t, 6, 1)
	wantAll(t, x.set, 13, Mark{6, 3, true}, Mark{1, 4, true}, Mark{4, 4, true}, Mark{2, 8, false}, Mark{3, 8, false}, Mark{5, 8, false}, Mark{7, 9, false})
	x.agree(t)
}

// P16.2: an empty text's marks.
func TestInsertInNothing(t *testing.T) {
	x := bothOf(t, 0, goes(0), stays(0), goes(0))
	x.insert(t, 0, 0)
	wantAt(t, x.set, "Insert(0, 0)", 0, 0, 0)
	x.insert(t, 0, 65536)
	wantAt(t, x.set, "Insert(0, 65536)", 65536, 0, 65536)
	x.remove(t, 0, 65536)
	wantAt(t, x.set, "Delete(0, 65536)", 0, 0, 0)
	x.agree(t)
}

// P16.2: each of Insert's errors alone, and two together: what the chapter names first is told.
func TestInsertErrors(t *testing.T) {
	for _, c := range []struct {
		at, n int
		want  api.Errno
	}{
		{-1, 1, api.ErrOffset}, {minInt, 0, api.ErrOffset}, {7, 1, api.ErrOffset}, {maxInt, 0, api.ErrOffset},
		{0, -1, api.ErrRange}, {6, -1, api.ErrRange}, {3, minInt, api.ErrRange}, {3, minInt + 1, api.ErrRange},
		{0, 65531, api.ErrSize}, {6, 65531, api.ErrSize}, {3, 65536, api.ErrSize}, {3, maxInt, api.ErrSize}, {3, maxInt - 5, api.ErrSize}, {3, maxInt - 6, api.ErrSize},
		{-1, -1, api.ErrOffset}, {7, minInt, api.ErrOffset}, {-1, 65531, api.ErrOffset}, {7, maxInt, api.ErrOffset},
		{0, 65530, api.OK}, {3, 65530, api.OK}, {6, 65530, api.OK},
	} {
		x := everywhere(t, 6)
		if e := x.insert(t, c.at, c.n); e != c.want {
			t.Errorf("Insert(%d, %d) in 6 bytes: %d, want %d", c.at, c.n, e, c.want)
		}
		x.agree(t)
	}
}

// P16.2: up to MaxText bytes, and beyond.
func TestInsertMost(t *testing.T) {
	x := bothOf(t, 65535, goes(65535), stays(65535), goes(0))
	for _, c := range []struct {
		at, n int
		want  api.Errno
	}{
		{65535, 2, api.ErrSize}, {0, 65536, api.ErrSize}, {0, maxInt, api.ErrSize}, {65535, 1, api.OK},
		{65536, 1, api.ErrSize}, {0, 1, api.ErrSize}, {65536, 0, api.OK}, {0, 0, api.OK}, {0, -1, api.ErrRange}, {65537, 0, api.ErrOffset},
	} {
		if e := x.insert(t, c.at, c.n); e != c.want {
			t.Errorf("Insert(%d, %d): %d, want %d", c.at, c.n, e, c.want)
		}
	}
	wantAt(t, x.set, "Insert", 65536, 65535, 0)
	x.agree(t)
}

// P16.2: Delete of nothing, of all, of parts with marks ahead of, at, between and behind their ends.
func TestDelete(t *testing.T) {
	for _, c := range []struct {
		from, to int
		want     []int // each twice, as both kinds go the same way
	}{
		{0, 0, []int{0, 1, 2, 3, 4}}, {2, 2, []int{0, 1, 2, 3, 4}}, {4, 4, []int{0, 1, 2, 3, 4}},
		{0, 4, []int{0, 0, 0, 0, 0}},
		{0, 1, []int{0, 0, 1, 2, 3}}, {1, 2, []int{0, 1, 1, 2, 3}}, {3, 4, []int{0, 1, 2, 3, 3}},
		{0, 2, []int{0, 0, 0, 1, 2}}, {1, 3, []int{0, 1, 1, 1, 2}}, {2, 4, []int{0, 1, 2, 2, 2}},
		{0, 3, []int{0, 0, 0, 0, 1}}, {1, 4, []int{0, 1, 1, 1, 1}},
	} {
		x := everywhere(t, 4)
		if e := x.remove(t, c.from, c.to); e != api.OK {
			t.Errorf("Delete(%d, %d): %d", c.from, c.to, e)
		}
		for at, now := range c.want {
			for id := 2*at + 1; id <= 2*at+2; id++ {
				if m, e := x.set.Get(id); m.At != now || m.Stays != (id%2 == 0) || e != api.OK {
					t.Errorf("behind Delete(%d, %d): %v, %d, want it at %d", c.from, c.to, m, e, now)
				}
			}
		}
		x.agree(t)
	}
	most := bothOf(t, 65536, goes(65536), stays(1), goes(65535), stays(0))
	most.remove(t, 1, 65535)
	wantAt(t, most.set, "Delete(1, 65535)", 2, 1, 1, 0)
	most.agree(t)
}

// P16.2: each of the reasons for Delete's error, alone and together.
func TestDeleteErrors(t *testing.T) {
	for _, c := range [][2]int{
		{-1, 0}, {-1, 3}, {minInt, 0}, {minInt, minInt}, {-1, -1}, {-2, -1},
		{0, 7}, {6, 7}, {7, 7}, {7, 8}, {0, maxInt}, {maxInt, maxInt}, {maxInt - 1, maxInt},
		{1, 0}, {6, 5}, {6, 0}, {0, -1}, {7, 6}, {7, 0}, {3, minInt}, {maxInt, 0}, {maxInt, minInt},
		{-1, 7}, {minInt, maxInt}, {8, 7}, {-1, -2},
	} {
		x := everywhere(t, 6)
		if e := x.remove(t, c[0], c[1]); e != api.ErrOffset {
			t.Errorf("Delete(%d, %d) in 6 bytes: %d", c[0], c[1], e)
		}
		x.agree(t)
	}
	x := bothOf(t, 0, goes(0))
	for _, c := range [][2]int{{0, 1}, {-1, 0}, {1, 1}, {1, 0}} {
		if e := x.remove(t, c[0], c[1]); e != api.ErrOffset {
			t.Errorf("Delete(%d, %d) in no bytes: %d", c[0], c[1], e)
		}
	}
	if e := x.remove(t, 0, 0); e != api.OK {
		t.Errorf("Delete(0, 0) in no bytes: %d", e)
	}
	x.agree(t)
}

// P16.4: all marks that came to one place stay together, or part by whether they stay; none comes ahead of one that was below it.
func TestOrder(t *testing.T) {
	x := everywhere(t, 6)
	x.remove(t, 1, 5)
	x.insert(t, 1, 3)
	x.insert(t, 4, 2)
	x.remove(t, 0, 2)
	x.insert(t, 0, 1)
	x.agree(t)
	// Of the marks at 1, those that stay came to 0, the others to 4 and to 6, and from there two down and one up.
	for id := 3; id <= 12; id++ {
		want := 5
		if id%2 == 0 {
			want = 0
		}
		if m, _ := x.set.Get(id); m.At != want {
			t.Errorf("%v, want it at %d", m, want)
		}
	}
}

// P16.5: what is inserted and deleted again leaves the marks where they were, of each kind, at each place near it.
func TestInsertedAndDeletedAgain(t *testing.T) {
	for size := range 6 {
		for at := range size + 1 {
			for _, n := range []int{0, 1, 2, 7, 65536 - size} {
				x := everywhere(t, size)
				was := x.set.All()
				x.insert(t, at, n)
				x.remove(t, at, at+n)
				wantAll(t, x.set, size, was...)
			}
		}
	}
}

// P16.5: and so do several that are deleted in the order in which they came, last one first, or bit by bit.
func TestInsertedBitByBit(t *testing.T) {
	x := everywhere(t, 5)
	was := x.set.All()
	x.insert(t, 2, 3)
	x.insert(t, 4, 2) // within what came
	x.insert(t, 0, 4)
	x.remove(t, 0, 4)
	x.remove(t, 4, 6)
	x.remove(t, 2, 5)
	wantAll(t, x.set, 5, was...)
	x.insert(t, 3, 6)
	x.remove(t, 5, 7)
	x.remove(t, 3, 4)
	x.remove(t, 4, 6)
	x.remove(t, 3, 4)
	wantAll(t, x.set, 5, was...)
	x.agree(t)
}

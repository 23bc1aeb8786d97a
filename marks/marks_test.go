package marks

import (
	"testing"

	"reglet/api"
)

// goes and stays: a mark that is put at a place.
func goes(at int) Mark  { return Mark{At: at} }
func stays(at int) Mark { return Mark{At: at, Stays: true} }

// P16.1: sizes below 0, 0, in between, MaxText and above it.
func TestNew(t *testing.T) {
	for _, size := range []int{minInt, minInt + 1, -65536, -2, -1, 65537, 65538, 131072, 1 << 32, maxInt - 1, maxInt} {
		if s, e := New(size); s != nil || e != api.ErrRange {
			t.Errorf("New(%d): %v, %d", size, s, e)
		}
	}
	for _, size := range []int{0, 1, 2, 1000, 65535, 65536} {
		s := made(t, size)
		wantAll(t, s, size)
		wantBetween(t, s, minInt, maxInt)
		for _, id := range []int{minInt, -1, 0, 1, maxInt} {
			if m, e := s.Get(id); m != (Mark{}) || e != api.ErrMark {
				t.Errorf("Get(%d) of a new set: %v, %d", id, m, e)
			}
		}
	}
}

// P16.1: Size and Count behind each call, also behind one that is refused.
func TestSizeAndCount(t *testing.T) {
	s := made(t, 5)
	for n, c := range []struct {
		call        func() api.Errno
		want        api.Errno
		size, count int
	}{
		{func() api.Errno { _, e := s.Put(5, false); return e }, api.OK, 5, 1},
		{func() api.Errno { _, e := s.Put(6, false); return e }, api.ErrOffset, 5, 1},
		{func() api.Errno { _, e := s.Put(0, true); return e }, api.OK, 5, 2},
		{func() api.Errno { _, e := s.Put(-1, true); return e }, api.ErrOffset, 5, 2},
		{func() api.Errno { _, e := s.Get(1); return e }, api.OK, 5, 2},
		{func() api.Errno { _, e := s.Get(3); return e }, api.ErrMark, 5, 2},
		{func() api.Errno { return s.Insert(2, 3) }, api.OK, 8, 2},
		{func() api.Errno { return s.Insert(2, -1) }, api.ErrRange, 8, 2},
		{func() api.Errno { return s.Insert(9, 1) }, api.ErrOffset, 8, 2},
		{func() api.Errno { return s.Insert(0, 65529) }, api.ErrSize, 8, 2},
		{func() api.Errno { return s.Insert(8, 0) }, api.OK, 8, 2},
		{func() api.Errno { return s.Move(1, 0) }, api.OK, 8, 2},
		{func() api.Errno { return s.Move(1, 9) }, api.ErrOffset, 8, 2},
		{func() api.Errno { return s.Move(3, 0) }, api.ErrMark, 8, 2},
		{func() api.Errno { return s.Delete(1, 7) }, api.OK, 2, 2},
		{func() api.Errno { return s.Delete(1, 3) }, api.ErrOffset, 2, 2},
		{func() api.Errno { return s.Delete(2, 1) }, api.ErrOffset, 2, 2},
		{func() api.Errno { return s.Delete(1, 1) }, api.OK, 2, 2},
		{func() api.Errno { return s.Drop(3) }, api.ErrMark, 2, 2},
		{func() api.Errno { return s.Drop(1) }, api.OK, 2, 1},
		{func() api.Errno { return s.Drop(1) }, api.ErrMark, 2, 1},
		{func() api.Errno { return s.Delete(0, 2) }, api.OK, 0, 1},
		{func() api.Errno { return s.Drop(2) }, api.OK, 0, 0},
		{func() api.Errno { return s.Insert(0, 65536) }, api.OK, 65536, 0},
		{func() api.Errno { s.All(); s.Between(0, 9); return api.OK }, api.OK, 65536, 0},
	} {
		if e := c.call(); e != c.want || s.Size() != c.size || s.Count() != c.count {
			t.Errorf("call %d: %d, Size %d, Count %d, want %d, %d, %d", n, e, s.Size(), s.Count(), c.want, c.size, c.count)
		}
	}
}

// P16.1: below 0, at 0, in the middle, at Size and above it; a refused one takes no number.
func TestPut(t *testing.T) {
	for _, stays := range []bool{false, true} {
		s := made(t, 6)
		id := 0
		for _, at := range []int{minInt, -1, 0, 3, 7, 6, maxInt, 8, 3, -1, 0} {
			got, e := s.Put(at, stays)
			if at < 0 || at > 6 {
				if got != 0 || e != api.ErrOffset {
					t.Errorf("Put(%d, %v): %d, %d", at, stays, got, e)
				}
				continue
			}
			id++
			if got != id || e != api.OK {
				t.Errorf("Put(%d, %v): %d, %d, want %d", at, stays, got, e, id)
			}
			if m, e := s.Get(id); m != (Mark{ID: id, At: at, Stays: stays}) || e != api.OK {
				t.Errorf("Get(%d) behind Put(%d, %v): %v, %d", id, at, stays, m, e)
			}
		}
		wantAll(t, s, 6, Mark{1, 0, stays}, Mark{5, 0, stays}, Mark{2, 3, stays}, Mark{4, 3, stays}, Mark{3, 6, stays})
	}
	none := made(t, 0)
	if id, e := none.Put(0, true); id != 1 || e != api.OK {
		t.Errorf("Put(0) in no bytes: %d, %d", id, e)
	}
	if id, e := none.Put(1, true); id != 0 || e != api.ErrOffset {
		t.Errorf("Put(1) in no bytes: %d, %d", id, e)
	}
	most := made(t, 65536)
	if id, e := most.Put(65536, false); id != 1 || e != api.OK {
		t.Errorf("Put(65536) in 65536 bytes: %d, %d", id, e)
	}
	if id, e := most.Put(65537, false); id != 0 || e != api.ErrOffset {
		t.Errorf("Put(65537) in 65536 bytes: %d, %d", id, e)
	}
}

// P16.1: where a place may be hangs on how many bytes there are now.
func TestPutBehindEdits(t *testing.T) {
	x := bothOf(t, 2)
	x.put(t, 3, false)
	x.insert(t, 1, 3)
	x.put(t, 5, false)
	x.put(t, 6, false)
	x.remove(t, 0, 4)
	x.put(t, 2, true)
	x.put(t, 1, true)
	x.agree(t)
	wantAll(t, x.set, 1, Mark{1, 1, false}, Mark{2, 1, true})
}

// P16.1: numbers go on behind Drops: none is given twice.
func TestNumbersBehindDrops(t *testing.T) {
	x := bothOf(t, 4, goes(1), stays(2), goes(3))
	x.drop(t, 3)
	x.put(t, 4, true) // 4
	x.drop(t, 1)
	x.drop(t, 2)
	x.drop(t, 2)
	x.put(t, 5, true)
	x.put(t, 0, false) // 5
	x.agree(t)
	wantAll(t, x.set, 4, Mark{5, 0, false}, Mark{4, 4, true})
	x.drop(t, 4)
	x.drop(t, 5)
	wantAll(t, x.set, 4)
	if id, e := x.put(t, 2, false); id != 6 || e != api.OK {
		t.Errorf("Put: %d, %d, want 6", id, e)
	}
	x.agree(t)
}

// full: a set that has MaxMarks marks.
func full(t *testing.T) *Set {
	t.Helper()
	s := made(t, 100)
	for n := range 1024 {
		if id, e := s.Put(n%101, n%2 == 0); id != n+1 || e != api.OK {
			t.Fatalf("Put, the %dth: %d, %d", n+1, id, e)
		}
	}
	return s
}

// P16.1: the MaxMarks-th mark and one more, also with a place that there isn't, and behind Drops.
func TestPutFull(t *testing.T) {
	s := full(t)
	was := s.All()
	for _, at := range []int{0, 50, 100} {
		if id, e := s.Put(at, false); id != 0 || e != api.ErrLong {
			t.Errorf("Put(%d) beside 1024 marks: %d, %d", at, id, e)
		}
	}
	for _, at := range []int{minInt, -1, 101, maxInt} {
		if id, e := s.Put(at, true); id != 0 || e != api.ErrOffset {
			t.Errorf("Put(%d) beside 1024 marks: %d, %d", at, id, e)
		}
	}
	wantAll(t, s, 100, was...)
	for n, gone := range []int{1024, 1, 512, 1025} {
		if e := s.Drop(gone); e != api.OK {
			t.Fatalf("Drop(%d): %d", gone, e)
		}
		if id, e := s.Put(7, true); id != 1025+n || e != api.OK {
			t.Errorf("Put behind Drop(%d): %d, %d, want %d", gone, id, e, 1025+n)
		}
		if id, e := s.Put(7, true); id != 0 || e != api.ErrLong || s.Count() != 1024 {
			t.Errorf("one more behind Drop(%d): %d, %d, Count %d", gone, id, e, s.Count())
		}
	}
	for id := 1; id <= 1028; id++ {
		want := api.OK
		if id == 1024 || id == 1 || id == 512 || id == 1025 {
			want = api.ErrMark
		}
		if m, e := s.Get(id); e != want || e == api.OK && m.ID != id {
			t.Errorf("Get(%d): %v, %d", id, m, e)
		}
	}
}

// P16.1: a set in which many more than MaxMarks marks were put, one after the other.
func TestManyNumbers(t *testing.T) {
	s := made(t, 9)
	for n := 1; n <= 5000; n++ {
		if id, e := s.Put(n%10, n%3 == 0); id != n || e != api.OK {
			t.Fatalf("Put, the %dth: %d, %d", n, id, e)
		}
		if old := n - 3; old > 0 {
			if e := s.Drop(old); e != api.OK {
				t.Fatalf("Drop(%d): %d", old, e)
			}
		}
	}
	wantAll(t, s, 9, Mark{5000, 0, false}, Mark{4998, 8, true}, Mark{4999, 9, false})
}

// P16.1: Get, Move and Drop of a mark that there is, of numbers that there never were, of one below and above it, of one that was dropped.
func TestNumbers(t *testing.T) {
	build := func() both {
		x := bothOf(t, 8, goes(5), stays(2), goes(2), stays(8), goes(0))
		x.drop(t, 3)
		return x
	}
	for _, id := range []int{minInt, minInt + 1, -5, -1, 0, 3, 6, 7, 1 << 32, 1<<32 + 1, maxInt - 1, maxInt} {
		x := build()
		if m, e := x.set.Get(id); m != (Mark{}) || e != api.ErrMark {
			t.Errorf("Get(%d): %v, %d", id, m, e)
		}
		for _, at := range []int{0, 8, -1, 9, minInt, maxInt} {
			if e := x.move(t, id, at); e != api.ErrMark {
				t.Errorf("Move(%d, %d): %d", id, at, e)
			}
		}
		if e := x.drop(t, id); e != api.ErrMark {
			t.Errorf("Drop(%d): %d", id, e)
		}
		x.agree(t)
	}
	for _, id := range []int{1, 2, 4, 5} {
		x := build()
		was, e := x.set.Get(id)
		if was.ID != id || e != api.OK {
			t.Errorf("Get(%d): %v, %d", id, was, e)
		}
		if e := x.drop(t, id); e != api.OK {
			t.Errorf("Drop(%d): %d", id, e)
		}
		x.agree(t)
		for _, e := range []api.Errno{x.drop(t, id), x.move(t, id, 3), x.move(t, id, -1)} {
			if e != api.ErrMark {
				t.Errorf("a call on %d behind its Drop: %d", id, e)
			}
		}
		x.agree(t)
	}
}

// P16.1: Move to each of the places as with Put; a mark keeps its number and whether it stays.
func TestMove(t *testing.T) {
	for id := 1; id <= 4; id++ {
		for _, at := range []int{0, 1, 4, 7, 8} {
			x := bothOf(t, 8, goes(5), stays(2), goes(2), stays(8))
			if e := x.move(t, id, at); e != api.OK {
				t.Errorf("Move(%d, %d): %d", id, at, e)
			}
			if m, e := x.set.Get(id); m != (Mark{ID: id, At: at, Stays: id%2 == 0}) || e != api.OK {
				t.Errorf("Get(%d) behind Move(%d, %d): %v, %d", id, id, at, m, e)
			}
			x.agree(t)
			x.insert(t, at, 3)
			x.agree(t)
			x.remove(t, 1, 9)
			x.move(t, id, 4)
			x.move(t, id, 3)
			x.agree(t)
		}
		for _, at := range []int{minInt, -1, 9, 10, maxInt} {
			x := bothOf(t, 8, goes(5), stays(2), goes(2), stays(8))
			if e := x.move(t, id, at); e != api.ErrOffset {
				t.Errorf("Move(%d, %d): %d", id, at, e)
			}
			x.agree(t)
		}
	}
}

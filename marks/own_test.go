package marks

import (
	"slices"
	"testing"

	"reglet/api"
)

// spoil changes a list, with its spare room.
func spoil[T any](list []T, by T) {
	list = list[:cap(list)]
	for k := range list {
		list[k] = by
	}
}

// P2, rule 4: what All and Between tell is the asker's: nothing that is done to it is seen in the set or in another answer.
func TestToldIsNew(t *testing.T) {
	x := bothOf(t, 9, goes(1), stays(4), goes(4), stays(9))
	check := func() {
		t.Helper()
		all, between := x.set.All(), x.set.Between(0, 9)
		wantAll, wantNumbers := slices.Clone(all), slices.Clone(between)
		spoil(x.set.All(), Mark{77, 77, true})
		spoil(x.set.Between(0, 9), 77)
		if !slices.Equal(all, wantAll) || !slices.Equal(between, wantNumbers) {
			t.Errorf("what was told ahead became %v and %v", all, between)
		}
		spoil(all, Mark{-7, -7, false})
		spoil(between, -7)
		x.agree(t)
		x.plain.agreeBetween(t, x.set)
	}
	check()
	x.put(t, 0, true)
	check()
	x.insert(t, 4, 3)
	check()
	x.drop(t, 3)
	check()
	x.move(t, 1, 9)
	check()
	x.remove(t, 2, 5)
	check()
	for _, id := range []int{1, 2, 4, 5} {
		x.drop(t, id)
	}
	check()
}

// P2, rule 4: what was told ahead of a call stays as it was told.
func TestToldStays(t *testing.T) {
	x := bothOf(t, 9, goes(1), stays(4), goes(4), stays(9))
	all, between := x.set.All(), x.set.Between(0, 9)
	one, _ := x.set.Get(3)
	want := []Mark{{1, 1, false}, {2, 4, true}, {3, 4, false}, {4, 9, true}}
	x.insert(t, 0, 5)
	x.remove(t, 3, 8)
	x.move(t, 3, 0)
	x.put(t, 2, false)
	x.drop(t, 2)
	x.drop(t, 1)
	if !slices.Equal(all, want) || !slices.Equal(between, []int{1, 2, 3, 4}) || one != want[2] {
		t.Errorf("what was told became %v, %v and %v", all, between, one)
	}
}

// P2, rule 4: a mark that Get told is the asker's.
func TestGetIsNew(t *testing.T) {
	x := bothOf(t, 9, goes(1), stays(4))
	for id := 1; id <= 2; id++ {
		m, _ := x.set.Get(id)
		m.At, m.ID, m.Stays = 7, 7, !m.Stays
		x.agree(t)
	}
}

// Rule 4: sets know nothing of one another.
func TestSetsApart(t *testing.T) {
	a, b := bothOf(t, 5), bothOf(t, 5)
	a.put(t, 2, true)
	a.put(t, 3, false)
	b.put(t, 4, false)
	a.insert(t, 1, 4)
	b.remove(t, 0, 2)
	a.drop(t, 1)
	b.put(t, 0, true)
	a.agree(t)
	b.agree(t)
}

// refusals: calls that a set of 6 bytes refuses whose marks are numbered 1 to 5, but for 3.
func refusals() []func(s *Set) api.Errno {
	put := func(at int) func(s *Set) api.Errno {
		return func(s *Set) api.Errno { _, e := s.Put(at, true); return e }
	}
	get := func(id int) func(s *Set) api.Errno {
		return func(s *Set) api.Errno { _, e := s.Get(id); return e }
	}
	move := func(id, at int) func(s *Set) api.Errno { return func(s *Set) api.Errno { return s.Move(id, at) } }
	drop := func(id int) func(s *Set) api.Errno { return func(s *Set) api.Errno { return s.Drop(id) } }
	insert := func(at, n int) func(s *Set) api.Errno { return func(s *Set) api.Errno { return s.Insert(at, n) } }
	remove := func(from, to int) func(s *Set) api.Errno {
		return func(s *Set) api.Errno { return s.Delete(from, to) }
	}
	return []func(s *Set) api.Errno{
		put(-1), put(7), get(3), get(0), get(6), move(3, 0), move(6, 9), move(1, -1), move(5, 7), drop(3), drop(0), drop(6),
		insert(-1, 2), insert(7, 2), insert(0, -2), insert(0, 65531), insert(3, maxInt), insert(3, minInt),
		remove(-1, 3), remove(3, 7), remove(4, 2), remove(minInt, maxInt),
	}
}

// Rule 3: a refused call changes nothing that a later one could tell.
func TestRefused(t *testing.T) {
	later := []func(x both){
		func(x both) { x.put(t, 6, true) },
		func(x both) { x.insert(t, 3, 65530) },
		func(x both) { x.insert(t, 0, 1) },
		func(x both) { x.remove(t, 1, 5) },
		func(x both) { x.move(t, 1, 6) },
		func(x both) { x.drop(t, 5) },
	}
	for n, call := range refusals() {
		for k, then := range later {
			x := bothOf(t, 6, goes(0), stays(3), goes(3), goes(3), stays(6))
			x.drop(t, 3)
			if e := call(x.set); e == api.OK {
				t.Errorf("call %d wasn't refused", n)
			}
			x.agree(t)
			then(x)
			x.agree(t)
			if id, e := x.put(t, 1, false); e != api.OK {
				t.Errorf("Put behind calls %d and %d: %d, %d", n, k, id, e)
			}
			x.agree(t)
		}
	}
}

// Rule 3: so does one that is refused as there are MaxMarks marks.
func TestRefusedFull(t *testing.T) {
	s := full(t)
	was := s.All()
	for range 3 {
		if _, e := s.Put(50, false); e != api.ErrLong {
			t.Fatal(e)
		}
	}
	wantAll(t, s, 100, was...)
	s.Drop(9)
	if id, e := s.Put(50, false); id != 1025 || e != api.OK {
		t.Errorf("Put: %d, %d, want 1025", id, e)
	}
}

// P1: every call ends and none panics, whatever the numbers are; and each answers as the chapter's words say.
func TestRaw(t *testing.T) {
	numbers := []int{minInt, minInt + 1, -65537, -65536, -1, 0, 1, 2, 3, 4, 65535, 65536, 65537, maxInt - 65536, maxInt - 1, maxInt}
	for _, a := range numbers {
		for _, b := range numbers {
			x := bothOf(t, 3, goes(0), stays(3), goes(2))
			x.drop(t, 2)
			wantBetween(t, x.set, a, b, x.plain.between(a, b)...)
			x.put(t, a, true)
			x.move(t, a, b)
			x.agree(t)
			x.insert(t, a, b)
			x.remove(t, a, b)
			x.drop(t, b)
			x.agree(t)
			wantBetween(t, x.set, a, b, x.plain.between(a, b)...)
			New(a)
		}
	}
}

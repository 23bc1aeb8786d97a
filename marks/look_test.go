package marks

import (
	"testing"

	"reglet/api"
)

// P16.3: All of no marks, of marks put in any order, of several at one place, behind Moves and Drops.
func TestAll(t *testing.T) {
	x := bothOf(t, 9)
	wantAll(t, x.set, 9)
	for _, at := range []int{9, 4, 0, 4, 7, 0, 4} {
		x.put(t, at, at == 4)
	}
	wantAll(t, x.set, 9, Mark{3, 0, false}, Mark{6, 0, false}, Mark{2, 4, true}, Mark{4, 4, true}, Mark{7, 4, true}, Mark{5, 7, false}, Mark{1, 9, false})
	x.move(t, 4, 0) // between two of one place
	wantAll(t, x.set, 9, Mark{3, 0, false}, Mark{4, 0, true}, Mark{6, 0, false}, Mark{2, 4, true}, Mark{7, 4, true}, Mark{5, 7, false}, Mark{1, 9, false})
	x.move(t, 1, 4)
	x.move(t, 3, 9)
	wantAll(t, x.set, 9, Mark{4, 0, true}, Mark{6, 0, false}, Mark{1, 4, false}, Mark{2, 4, true}, Mark{7, 4, true}, Mark{5, 7, false}, Mark{3, 9, false})
	x.drop(t, 2)
	x.drop(t, 4)
	x.drop(t, 3)
	wantAll(t, x.set, 9, Mark{6, 0, false}, Mark{1, 4, false}, Mark{7, 4, true}, Mark{5, 7, false})
	x.remove(t, 0, 9)
	wantAll(t, x.set, 0, Mark{1, 0, false}, Mark{5, 0, false}, Mark{6, 0, false}, Mark{7, 0, true})
	x.insert(t, 0, 1)
	wantAll(t, x.set, 1, Mark{7, 0, true}, Mark{1, 1, false}, Mark{5, 1, false}, Mark{6, 1, false})
	for _, id := range []int{6, 1, 7, 5} {
		x.drop(t, id)
	}
	wantAll(t, x.set, 1)
	x.agree(t)
}

// P16.3: a mark that is put last isn't told last, nor is the one that was moved last.
func TestAllOfMany(t *testing.T) {
	s := full(t)
	list := s.All()
	if len(list) != 1024 {
		t.Fatalf("%d marks", len(list))
	}
	for n, m := range list[1:] {
		if ahead := list[n]; ahead.At > m.At || ahead.At == m.At && ahead.ID >= m.ID {
			t.Fatalf("%v is told ahead of %v", ahead, m)
		}
	}
}

// P16.3: from and to at, ahead of, between and behind marks, to below from, and places that there aren't.
func TestBetween(t *testing.T) {
	x := bothOf(t, 12, goes(6), stays(3), goes(9), stays(6), goes(3), stays(0), goes(12))
	for _, c := range []struct {
		from, to int
		want     []int
	}{
		{0, 12, []int{6, 2, 5, 1, 4, 3, 7}}, {minInt, maxInt, []int{6, 2, 5, 1, 4, 3, 7}}, {-1, 13, []int{6, 2, 5, 1, 4, 3, 7}},
		{3, 9, []int{2, 5, 1, 4, 3}}, {3, 8, []int{2, 5, 1, 4}}, {4, 9, []int{1, 4, 3}}, {4, 8, []int{1, 4}}, {2, 10, []int{2, 5, 1, 4, 3}},
		{6, 6, []int{1, 4}}, {3, 3, []int{2, 5}}, {0, 0, []int{6}}, {12, 12, []int{7}}, {5, 5, nil}, {7, 8, nil}, {1, 2, nil}, {10, 11, nil},
		{0, 2, []int{6}}, {10, 12, []int{7}}, {11, 99, []int{7}}, {-7, 0, []int{6}}, {minInt, 0, []int{6}}, {12, maxInt, []int{7}},
		{-9, -1, nil}, {minInt, -1, nil}, {minInt, minInt, nil}, {13, maxInt, nil}, {13, 99, nil}, {maxInt, maxInt, nil},
		{9, 3, nil}, {6, 5, nil}, {7, 6, nil}, {12, 0, nil}, {maxInt, minInt, nil}, {13, -1, nil},
	} {
		wantBetween(t, x.set, c.from, c.to, c.want...)
	}
	x.plain.agreeBetween(t, x.set)
	x.move(t, 7, 4)
	x.drop(t, 2)
	x.insert(t, 6, 1)
	wantBetween(t, x.set, 3, 7, 5, 7, 4, 1)
	x.plain.agreeBetween(t, x.set)
	x.agree(t)
}

// P16.3: of no marks.
func TestBetweenOfNone(t *testing.T) {
	for _, size := range []int{0, 4} {
		x := bothOf(t, size)
		x.plain.agreeBetween(t, x.set)
		if id, e := x.put(t, 0, true); e != api.OK || x.drop(t, id) != api.OK {
			t.Fatal(id, e)
		}
		x.plain.agreeBetween(t, x.set)
	}
}

package marks

import (
	"math/rand/v2"
	"testing"

	"reglet/api"
)

// drawnNumber: mostly one of 0 to n, now and then one beside them.
func drawnNumber(r *rand.Rand, n int) int {
	switch r.IntN(24) {
	case 0:
		return -1 - r.IntN(3)
	case 1:
		return n + 1 + r.IntN(3)
	case 2:
		return []int{minInt, minInt + 1, maxInt - 1, maxInt}[r.IntN(4)]
	case 3, 4, 5:
		return n
	}
	return r.IntN(n + 1)
}

// drawnMany: how many bytes come.
func drawnMany(r *rand.Rand) int {
	switch r.IntN(24) {
	case 0:
		return []int{minInt, -2, -1, 65536, 65537, maxInt}[r.IntN(6)]
	case 1, 2, 3:
		return 0
	}
	return r.IntN(6)
}

// seen counts what the drawn calls came to, so that no kind is left out.
type seen struct {
	put, moved, dropped, came, went int
	outside, none, below, tooBig    int
	again, parted                   int
}

// step does one drawn call with both.
func (x both) step(t *testing.T, r *rand.Rand, s *seen) {
	t.Helper()
	size := x.plain.size()
	switch r.IntN(8) {
	case 0:
		_, e := x.put(t, drawnNumber(r, size), r.IntN(2) == 0)
		s.count(e, &s.put)
	case 1:
		s.count(x.move(t, drawnNumber(r, x.plain.put), drawnNumber(r, size)), &s.moved)
	case 2:
		s.count(x.drop(t, drawnNumber(r, x.plain.put)), &s.dropped)
	case 3, 4:
		s.count(x.insert(t, drawnNumber(r, size), drawnMany(r)), &s.came)
		if now := x.plain.size(); now > 1000 { // soon small again: the plain one takes its time
			x.agree(t)
			x.remove(t, r.IntN(9), now-r.IntN(9))
		}
	case 5, 6:
		from, to := drawnNumber(r, size), drawnNumber(r, size)
		if from > to && r.IntN(16) > 0 {
			from, to = to, from
		}
		s.count(x.remove(t, from, to), &s.went)
	case 7:
		x.again(t, r.IntN(size+1), r.IntN(9), s)
	}
}

func (s *seen) count(e api.Errno, done *int) {
	switch e {
	case api.OK:
		*done++
	case api.ErrOffset:
		s.outside++
	case api.ErrMark:
		s.none++
	case api.ErrRange:
		s.below++
	case api.ErrSize:
		s.tooBig++
	}
}

// again inserts bytes and deletes them again: the marks are where they were. P16.5.
func (x both) again(t *testing.T, at, n int, s *seen) {
	t.Helper()
	size, was := x.plain.size(), x.set.All()
	if x.insert(t, at, n) != api.OK {
		return
	}
	if here := x.set.Between(at, at); len(here) > 0 && len(x.set.Between(at+n, at+n)) > 0 && n > 0 {
		s.parted++ // some stayed, some didn't
	}
	if e := x.remove(t, at, at+n); e != api.OK {
		t.Fatal(e)
	}
	wantAll(t, x.set, size, was...)
	s.again++
}

// P16.1 to P16.5: many calls in a row, against a plain row of bytes and marks.
func TestDrawnCalls(t *testing.T) {
	r := rand.New(rand.NewPCG(16, 1))
	var s seen
	for range 1500 {
		x := bothOf(t, r.IntN(12))
		for range r.IntN(10) {
			x.put(t, r.IntN(x.plain.size()+1), r.IntN(2) == 0)
		}
		for range 60 {
			x.step(t, r, &s)
			x.agree(t)
			from, to := drawnNumber(r, x.plain.size()), drawnNumber(r, x.plain.size())
			wantBetween(t, x.set, from, to, x.plain.between(from, to)...)
		}
	}
	if min(s.put, s.moved, s.dropped, s.came, s.went, s.outside, s.none, s.below, s.tooBig, s.again, s.parted) < 100 {
		t.Errorf("too few of a kind: %+v", s)
	}
}

// P16.1: many marks: one after the other is put and dropped, with MaxMarks of them there most of the time.
func TestDrawnFull(t *testing.T) {
	r := rand.New(rand.NewPCG(16, 2))
	x := bothOf(t, 300)
	refused := 0
	for n := range 4000 {
		if _, e := x.put(t, drawnNumber(r, 300), r.IntN(2) == 0); e == api.ErrLong {
			refused++
		}
		if n > 1100 && r.IntN(3) == 0 {
			x.drop(t, 1+r.IntN(x.plain.put))
		}
	}
	x.agree(t)
	if refused < 100 || x.plain.count() > 1024 {
		t.Errorf("%d were refused, Count %d", refused, x.plain.count())
	}
	for range 20 {
		at := r.IntN(x.plain.size() + 1)
		x.insert(t, at, r.IntN(100))
		x.remove(t, r.IntN(at+1), at)
	}
	x.agree(t)
}

// rows: every set of a text of so many bytes with so many marks, each at any place, of either kind.
func rows(t *testing.T, size, many int, do func(x both)) {
	t.Helper()
	kinds := 2 * (size + 1)
	all := 1
	for range many {
		all *= kinds
	}
	for n := range all {
		x := bothOf(t, size)
		for range many {
			kind := n % kinds
			n /= kinds
			x.put(t, kind/2, kind%2 == 1)
		}
		do(x)
	}
}

// anew: a set of its own that is as x is, as far as the plain one tells.
func (x both) anew(t *testing.T) both {
	t.Helper()
	y := bothOf(t, x.plain.size())
	for id := 1; id <= x.plain.put; id++ {
		m, _ := x.plain.get(id)
		y.put(t, m.At, m.Stays)
	}
	return y
}

// P16.2, P16.4, P16.5: every Insert and every Delete of every short text with up to three marks.
func TestAllShort(t *testing.T) {
	for size := range 4 {
		for many := range 4 {
			rows(t, size, many, func(x both) {
				x.agree(t)
				for from := -1; from <= size+1; from++ {
					for to := -1; to <= size+2; to++ {
						y := x.anew(t)
						y.remove(t, from, to)
						y.agree(t)
						y = x.anew(t)
						e := y.insert(t, from, to)
						y.agree(t)
						if e == api.OK {
							y.remove(t, from, from+to)
							wantAll(t, y.set, size, x.plain.all()...)
						}
					}
				}
			})
		}
	}
}

// P16.3: every Between of every short text with up to three marks.
func TestAllBetween(t *testing.T) {
	for size := range 3 {
		for many := range 4 {
			rows(t, size, many, func(x both) { x.plain.agreeBetween(t, x.set) })
		}
	}
}

package marks

import (
	"cmp"
	"math"
	"slices"
	"testing"

	"reglet/api"
)

const (
	maxInt = math.MaxInt
	minInt = math.MinInt
)

// cell is a byte of a text (ID 0), or a mark that stands between bytes.
type cell struct {
	id    int
	stays bool
}

// plain is a set as a row of the text's bytes and of the marks between them: a mark's place is how many bytes are ahead of it. Marks of one place stand in any order.
type plain struct {
	row []cell
	put int
}

func plainOf(size int) *plain { return &plain{row: make([]cell, size)} }

func (p *plain) size() int {
	n := 0
	for _, c := range p.row {
		if c.id == 0 {
			n++
		}
	}
	return n
}

func (p *plain) count() int { return len(p.row) - p.size() }

// all: the marks, by their places, of one place by their numbers.
func (p *plain) all() []Mark {
	var list, here []Mark
	at := 0
	for _, c := range append(slices.Clone(p.row), cell{}) { // a byte behind all, so that the last place ends too
		if c.id > 0 {
			here = append(here, Mark{ID: c.id, At: at, Stays: c.stays})
			continue
		}
		slices.SortFunc(here, func(a, b Mark) int { return cmp.Compare(a.ID, b.ID) })
		list = append(list, here...)
		here = nil
		at++
	}
	return list
}

func (p *plain) get(id int) (Mark, api.Errno) { return among(p.all(), id) }

// among: a number's mark.
func among(list []Mark, id int) (Mark, api.Errno) {
	for _, m := range list {
		if m.ID == id {
			return m, api.OK
		}
	}
	return Mark{}, api.ErrMark
}

func (p *plain) between(from, to int) []int {
	var list []int
	for _, m := range p.all() {
		if m.At >= from && m.At <= to {
			list = append(list, m.ID)
		}
	}
	return list
}

// parts: the row ahead of a place, the marks at it, the row behind it.
func (p *plain) parts(at int) (ahead, here, behind []cell) {
	n := 0 // bytes ahead of the cell that is gone through
	for _, c := range p.row {
		switch {
		case n > at || n == at && c.id == 0:
			behind = append(behind, c)
		case n == at:
			here = append(here, c)
		default:
			ahead = append(ahead, c)
		}
		if c.id == 0 {
			n++
		}
	}
	return ahead, here, behind
}

func (p *plain) add(c cell, at int) {
	ahead, here, behind := p.parts(at)
	p.row = slices.Concat(ahead, here, []cell{c}, behind)
}

func (p *plain) take(id int) {
	p.row = slices.DeleteFunc(p.row, func(c cell) bool { return c.id == id })
}

func (p *plain) placeFault(at int) api.Errno {
	if at < 0 || at > p.size() {
		return api.ErrOffset
	}
	return api.OK
}

func (p *plain) putOne(at int, stays bool) (int, api.Errno) {
	if e := p.placeFault(at); e != api.OK {
		return 0, e
	}
	if p.count() == 1024 {
		return 0, api.ErrLong
	}
	p.put++
	p.add(cell{p.put, stays}, at)
	return p.put, api.OK
}

func (p *plain) move(id, at int) api.Errno {
	m, e := p.get(id)
	if e != api.OK {
		return e
	}
	if e := p.placeFault(at); e != api.OK {
		return e
	}
	p.take(id)
	p.add(cell{id, m.Stays}, at)
	return api.OK
}

func (p *plain) drop(id int) api.Errno {
	if _, e := p.get(id); e != api.OK {
		return e
	}
	p.take(id)
	return api.OK
}

// insert lays bytes between the marks of a place: behind those that stay, ahead of the others.
func (p *plain) insert(at, n int) api.Errno {
	if e := p.placeFault(at); e != api.OK {
		return e
	}
	if n < 0 {
		return api.ErrRange
	}
	if uint64(p.size())+uint64(n) > 65536 {
		return api.ErrSize
	}
	ahead, here, behind := p.parts(at)
	var others []cell
	for _, c := range here {
		if c.stays {
			ahead = append(ahead, c)
		} else {
			others = append(others, c)
		}
	}
	p.row = slices.Concat(ahead, make([]cell, n), others, behind)
	return api.OK
}

// remove takes bytes out, and leaves the marks between them.
func (p *plain) remove(from, to int) api.Errno {
	if from < 0 || to > p.size() || from > to {
		return api.ErrOffset
	}
	var left []cell
	at := 0
	for _, c := range p.row {
		if c.id > 0 {
			left = append(left, c)
			continue
		}
		if at < from || at >= to {
			left = append(left, c)
		}
		at++
	}
	p.row = left
	return api.OK
}

// wantAll holds what All and Count tell against the marks that there should be.
func wantAll(t testing.TB, s *Set, size int, want ...Mark) {
	t.Helper()
	if got := s.All(); !slices.Equal(got, want) {
		t.Fatalf("All: %v, want %v", got, want)
	}
	if s.Count() != len(want) || s.Size() != size {
		t.Fatalf("Count %d, Size %d, want %d, %d", s.Count(), s.Size(), len(want), size)
	}
}

func wantBetween(t testing.TB, s *Set, from, to int, want ...int) {
	t.Helper()
	if got := s.Between(from, to); !slices.Equal(got, want) {
		t.Fatalf("Between(%d, %d) of %v: %v, want %v", from, to, s.All(), got, want)
	}
}

// agree holds all that a set tells against the plain one: P16.1, P16.3; and that no mark lies outside: P16.4.
func (p *plain) agree(t testing.TB, s *Set) {
	t.Helper()
	all := p.all()
	wantAll(t, s, p.size(), all...)
	for _, m := range s.All() {
		if m.At < 0 || m.At > s.Size() {
			t.Fatalf("%v outside of %d bytes", m, s.Size())
		}
	}
	ids := []int{minInt, minInt + 1, maxInt - 1, maxInt}
	for id := -1; id <= p.put+2; id++ {
		ids = append(ids, id)
	}
	for _, id := range ids {
		want, wantErr := among(all, id)
		if m, e := s.Get(id); m != want || e != wantErr {
			t.Fatalf("Get(%d): %v, %d, want %v, %d", id, m, e, want, wantErr)
		}
	}
}

// agreeBetween holds Between against the plain one's, for all places in and beside the text.
func (p *plain) agreeBetween(t testing.TB, s *Set) {
	t.Helper()
	places := []int{minInt, minInt + 1, maxInt - 1, maxInt}
	for at := -2; at <= p.size()+2; at++ {
		places = append(places, at)
	}
	for _, from := range places {
		for _, to := range places {
			wantBetween(t, s, from, to, p.between(from, to)...)
		}
	}
}

// both is a set and the plain one, that go the same way.
type both struct {
	set   *Set
	plain *plain
}

// made: a set of a size that may be.
func made(t testing.TB, size int) *Set {
	t.Helper()
	s, e := New(size)
	if s == nil || e != api.OK {
		t.Fatalf("New(%d): %v, %d", size, s, e)
	}
	return s
}

func bothOf(t testing.TB, size int, list ...Mark) both {
	t.Helper()
	x := both{made(t, size), plainOf(size)}
	for _, m := range list {
		x.put(t, m.At, m.Stays)
	}
	return x
}

func (x both) put(t testing.TB, at int, stays bool) (int, api.Errno) {
	t.Helper()
	id, e := x.set.Put(at, stays)
	if want, wantErr := x.plain.putOne(at, stays); id != want || e != wantErr {
		t.Fatalf("Put(%d, %v) in %d bytes: %d, %d, want %d, %d", at, stays, x.plain.size(), id, e, want, wantErr)
	}
	return id, e
}

func (x both) move(t testing.TB, id, at int) api.Errno {
	t.Helper()
	e := x.set.Move(id, at)
	if want := x.plain.move(id, at); e != want {
		t.Fatalf("Move(%d, %d) in %d bytes: %d, want %d", id, at, x.plain.size(), e, want)
	}
	return e
}

func (x both) drop(t testing.TB, id int) api.Errno {
	t.Helper()
	e := x.set.Drop(id)
	if want := x.plain.drop(id); e != want {
		t.Fatalf("Drop(%d): %d, want %d", id, e, want)
	}
	return e
}

func (x both) insert(t testing.TB, at, n int) api.Errno {
	t.Helper()
	was := x.set.All()
	e := x.set.Insert(at, n)
	if want := x.plain.insert(at, n); e != want {
		t.Fatalf("Insert(%d, %d) in %d bytes: %d, want %d", at, n, x.plain.size(), e, want)
	}
	wantInOrder(t, x.set, was)
	return e
}

func (x both) remove(t testing.TB, from, to int) api.Errno {
	t.Helper()
	was := x.set.All()
	e := x.set.Delete(from, to)
	if want := x.plain.remove(from, to); e != want {
		t.Fatalf("Delete(%d, %d) in %d bytes: %d, want %d", from, to, x.plain.size(), e, want)
	}
	wantInOrder(t, x.set, was)
	return e
}

// wantInOrder: of two marks, the one that was above the other isn't below it now. P16.4.
func wantInOrder(t testing.TB, s *Set, was []Mark) {
	t.Helper()
	most, ahead := Mark{}, Mark{} // the furthest now of those below the place that is gone through; and of those at it, too
	for n, m := range was {
		now, e := s.Get(m.ID)
		if e != api.OK || now.Stays != m.Stays {
			t.Fatalf("%v became %v, %d", m, now, e)
		}
		if n > 0 && was[n-1].At < m.At {
			most = ahead
		}
		if now.At < most.At {
			t.Fatalf("%v of %v came below %v", now, was, most)
		}
		if now.At > ahead.At {
			ahead = now
		}
	}
}

func (x both) agree(t testing.TB) {
	t.Helper()
	x.plain.agree(t, x.set)
}

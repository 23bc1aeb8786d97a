package marks

import "reglet/api"

// Insert: so many bytes come to a place.
func (s *Set) Insert(at, n int) api.Errno {
	if s.isOutside(at) {
		return api.ErrOffset
	}
	if n < 0 {
		return api.ErrRange
	}
	if n > api.MaxText-s.size {
		return api.ErrSize
	}
	s.size += n
	s.place(func(m Mark) int {
		if m.At > at || m.At == at && !m.Stays {
			return m.At + n
		}
		return m.At
	})
	return api.OK
}

// Delete: a part goes.
func (s *Set) Delete(from, to int) api.Errno {
	if from < 0 || to > s.size || from > to {
		return api.ErrOffset
	}
	gone := to - from
	s.size -= gone
	s.place(func(m Mark) int {
		if m.At >= to {
			return m.At - gone
		}
		return min(m.At, from)
	})
	return api.OK
}

// place puts each mark where it belongs now.
func (s *Set) place(now func(Mark) int) {
	for k, m := range s.list {
		s.list[k].At = now(m)
	}
}

package runs

import (
	"iter"
	"sort"

	"reglet/api"
)

// Len: how many bytes.
func (l *List) Len() int { return size(l.parts) }

// Count: how many runs.
func (l *List) Count() int { return len(l.parts) }

// Runs: all of them.
func (l *List) Runs() []api.Run { return l.told(0, l.Len()) }

// Slice: the runs of a part's bytes.
func (l *List) Slice(from, to int) ([]api.Run, api.Errno) {
	if l.outside(from, to) {
		return nil, api.ErrOffset
	}
	return l.told(from, to), api.OK
}

// Each gives out where each run begins, and the run.
func (l *List) Each() iter.Seq2[int, api.Run] {
	return between(l.parts, 0, l.Len())
}

// At: a byte's style; false: there is no such byte.
func (l *List) At(at int) (int, bool) {
	if at < 0 || at >= l.Len() {
		return 0, false
	}
	return l.parts[holder(l.parts, at)].style, true
}

// Near: the style that bytes get that come to a place.
func (l *List) Near(at int) (int, api.Errno) {
	if l.outside(at, at) {
		return 0, api.ErrOffset
	}
	if l.Len() == 0 {
		return l.bare, api.OK
	}
	return l.parts[holder(l.parts, max(at-1, 0))].style, api.OK
}

// Most: the greatest style that a byte has; -1: there are no bytes.
func (l *List) Most() int {
	most := -1
	for _, p := range l.parts {
		most = max(most, p.style)
	}
	return most
}

func (l *List) told(from, to int) []api.Run {
	var list []api.Run
	for _, run := range between(l.parts, from, to) {
		list = append(list, run)
	}
	return list
}

// outside: do from and to tell no part of the bytes?
func (l *List) outside(from, to int) bool {
	return from < 0 || to > l.Len() || from > to
}

// holder: the number of the part that has the byte at; how many parts there are, if none has it.
func holder(parts []part, at int) int {
	return sort.Search(len(parts), func(i int) bool { return parts[i].end > at })
}

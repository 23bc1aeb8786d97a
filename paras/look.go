package paras

import (
	"iter"
	"sort"

	"reglet/api"
)

// Count: how many paragraphs.
func (x *Index) Count() int { return len(x.ends) }

// Size: how many bytes.
func (x *Index) Size() int { return last(x.ends) }

// Open: has the last paragraph no line end?
func (x *Index) Open() bool { return x.open }

// Span: where a paragraph begins and ends; false: there is none.
func (x *Index) Span(p int) (int, int, bool) {
	if p < 0 || p >= x.Count() {
		return 0, 0, false
	}
	return x.begin(p), x.ends[p], true
}

// Find: the paragraph that has a byte; false: there is no such byte.
func (x *Index) Find(at int) (int, bool) {
	if at < 0 || at >= x.Size() {
		return 0, false
	}
	return x.holder(at), true
}

// Spans gives out where each paragraph begins and ends.
func (x *Index) Spans() iter.Seq2[int, int] {
	ends := x.ends
	return func(yield func(int, int) bool) {
		begin := 0
		for _, end := range ends {
			if !yield(begin, end) {
				return
			}
			begin = end
		}
	}
}

// Over: the paragraphs that have bytes of a part.
func (x *Index) Over(from, to int) (api.Interval, api.Errno) {
	if x.outside(from, to) {
		return api.Interval{}, api.ErrOffset
	}
	if from == to {
		return api.Interval{}, api.OK
	}
	first := x.holder(from)
	many := x.holder(to-1) + 1 - first
	return api.Interval{First: first, Old: many, New: many}, api.OK
}

// begin: where paragraph p begins; of Count, where one would that comes behind all.
func (x *Index) begin(p int) int { return last(x.ends[:p]) }

// outside: do from and to tell no part of the text?
func (x *Index) outside(from, to int) bool {
	return from < 0 || to > x.Size() || from > to
}

// holder: the paragraph that has the byte at; Count, if that is behind them all.
func (x *Index) holder(at int) int {
	return sort.Search(len(x.ends), func(p int) bool { return x.ends[p] > at })
}

package paras

import "reglet/api"

// Insert: a text comes to a place; the paragraphs that it touches.
func (x *Index) Insert(at int, s string) (api.Interval, api.Errno) {
	if x.outside(at, at) {
		return api.Interval{}, api.ErrOffset
	}
	if s == "" {
		return api.Interval{}, api.OK
	}
	if len(s) > api.MaxText-x.Size() {
		return api.Interval{}, api.ErrSize
	}
	first, old := x.touched(at)
	sizes, open := Split(s)
	sizes[0] += at - x.begin(first)
	behind := x.begin(first+old) - at
	switch {
	case behind == 0:
		x.open = open
	case open:
		sizes[len(sizes)-1] += behind
	default:
		sizes = append(sizes, behind)
	}
	x.put(first, old, sizes)
	return api.Interval{First: first, Old: old, New: len(sizes)}, api.OK
}

// Delete: a part goes; the paragraphs that it touches.
func (x *Index) Delete(from, to int) (api.Interval, api.Errno) {
	over, err := x.Over(from, to)
	if err != api.OK || from == to {
		return over, err
	}
	first, old := over.First, over.Old
	ahead := from - x.begin(first)
	if to == x.Size() {
		x.open = ahead > 0
	} else if ahead > 0 && to == x.begin(first+old) {
		// What is left ahead has no line end any more, so that the next paragraph goes on with it.
		old++
	}
	var sizes []int
	if left := ahead + x.begin(first+old) - to; left > 0 {
		sizes = []int{left}
	}
	x.put(first, old, sizes)
	return api.Interval{First: first, Old: old, New: len(sizes)}, api.OK
}

// touched: the first paragraph that a text touches which comes to at, and how many it touches.
func (x *Index) touched(at int) (int, int) {
	p := x.holder(at)
	if p < x.Count() {
		return p, 1
	}
	if x.open {
		return p - 1, 1
	}
	return p, 0
}

// put has paragraphs of these sizes stand in the place of old ones from first on. The ends are made anew, as those that stood are never changed.
func (x *Index) put(first, old int, sizes []int) {
	ends := add(append([]int(nil), x.ends[:first]...), sizes)
	moved := last(ends) - x.begin(first+old)
	for _, end := range x.ends[first+old:] {
		ends = append(ends, end+moved)
	}
	x.ends = ends
}

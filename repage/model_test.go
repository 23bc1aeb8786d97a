package repage

import (
	"math"
	"slices"
	"testing"

	"reglet/api"
	"reglet/measure"
	"reglet/pages"
)

const (
	minInt = math.MinInt
	maxInt = math.MaxInt
)

// para: the lines of a paragraph that are so high.
func para(heights ...int) []api.Slot {
	list := make([]api.Slot, len(heights))
	for k, h := range heights {
		list[k] = api.Slot{Height: h, Index: k, Count: len(heights)}
	}
	return list
}

// even: the lines of a paragraph that are all so high.
func even(many, height int) []api.Slot {
	return para(slices.Repeat([]int{height}, many)...)
}

// ones: so many paragraphs of one line of 10.
func ones(many int) []api.Slot { return slices.Repeat(para(10), many) }

// kept: these lines, of paragraphs that stay with the next one.
func kept(list []api.Slot) []api.Slot {
	out := slices.Clone(list)
	for k := range out {
		out[k].Keep = true
	}
	return out
}

// document: paragraphs one behind the other.
func document(paras ...[]api.Slot) []api.Slot { return slices.Concat(paras...) }

// asks: the usual settings with other Orphans and Widows.
func asks(orphans, widows int) api.Settings {
	set := measure.Usual()
	set.Orphans, set.Widows = orphans, widows
	return set
}

// made: a book of what may be.
func made(t testing.TB, list []api.Slot, height int, set api.Settings) *Book {
	t.Helper()
	b, e := New(list, height, set)
	if e != api.OK || b == nil {
		t.Fatalf("New(%v, %d, %v): %v, %d", list, height, set, b, e)
	}
	return b
}

// plain is a book as a list whose pages are all laid again at each call. Each line has a number of its own, by which it is known wherever it goes.
type plain struct {
	list   []api.Slot
	names  []int
	named  int
	height int
	set    api.Settings
}

func plainOf(list []api.Slot, height int, set api.Settings) *plain {
	p := &plain{height: height, set: set}
	p.put(0, 0, list)
	return p
}

func (p *plain) put(first, gone int, come []api.Slot) {
	var names []int
	for range come {
		p.named++
		names = append(names, p.named)
	}
	p.list = slices.Concat(p.list[:first], come, p.list[first+gone:])
	p.names = slices.Concat(p.names[:first], names, p.names[first+gone:])
}

func (p *plain) copy() *plain {
	q := *p
	q.list, q.names = slices.Clone(p.list), slices.Clone(p.names)
	return &q
}

// starts: all pages, laid again.
func (p *plain) starts() []int {
	starts, e := pages.Paginate(p.list, p.height, p.set)
	if e != api.OK {
		panic(e)
	}
	return starts
}

// seams: where a paragraph begins, and behind the last line, found by going from paragraph to paragraph.
func (p *plain) seams() []int {
	seams := []int{0}
	for line := 0; line < len(p.list); {
		line += p.list[line].Count
		seams = append(seams, line)
	}
	return seams
}

// refuses: P13.2's errors.
func (p *plain) refuses(first, gone int, come []api.Slot) bool {
	if first < 0 || gone < 0 || first > len(p.list) || gone > len(p.list) || first+gone > len(p.list) {
		return true
	}
	seams := p.seams()
	return !slices.Contains(seams, first) || !slices.Contains(seams, first+gone) || pages.Right(come) != api.OK
}

// replace: by P13.2's words, one after the other.
func (p *plain) replace(first, gone int, come []api.Slot) (int, int, api.Errno) {
	if p.refuses(first, gone, come) {
		return 0, 0, api.ErrRange
	}
	page := 0
	var began []int // the lines with which pages began, by their names
	for n, line := range p.starts() {
		began = append(began, p.names[line])
		if line <= first && n > 0 {
			page = n - 1
		}
	}
	p.put(first, gone, come)
	built := 0
	for _, line := range p.starts()[page:] {
		if line >= first+len(come) && slices.Contains(began, p.names[line]) {
			break
		}
		built++
	}
	return page, built, api.OK
}

func (p *plain) resize(height int) (int, api.Errno) {
	if e := pages.Check(height, p.set); e != api.OK {
		return 0, e
	}
	p.height = height
	return len(p.starts()), api.OK
}

// agree holds all that a book tells against the plain one: P13.1, P13.4.
func (p *plain) agree(t testing.TB, b *Book) {
	t.Helper()
	if b.Lines() != len(p.list) || b.Height() != p.height {
		t.Fatalf("Lines %d, Height %d, want %d, %d", b.Lines(), b.Height(), len(p.list), p.height)
	}
	if got := b.Slots(); !slices.Equal(got, p.list) {
		t.Fatalf("Slots: %v, want %v", got, p.list)
	}
	if got, want := b.Starts(), p.starts(); !slices.Equal(got, want) {
		t.Fatalf("Starts of %v, height %d, %d and %d: %v, want %v", p.list, p.height, p.set.Orphans, p.set.Widows, got, want)
	}
}

// both is a book and the plain one, that go the same way.
type both struct {
	book  *Book
	plain *plain
}

func bothOf(t testing.TB, list []api.Slot, height int, set api.Settings) both {
	t.Helper()
	x := both{made(t, list, height, set), plainOf(list, height, set)}
	x.plain.agree(t, x.book)
	return x
}

func (x both) copy() both { return both{x.book.Copy(), x.plain.copy()} }

// replace does it with both, and tells what both told.
func (x both) replace(t testing.TB, first, gone int, come []api.Slot) (int, int, api.Errno) {
	t.Helper()
	lines, starts := x.book.Slots(), x.book.Starts()
	page, built, e := x.book.Replace(first, gone, come)
	wantPage, wantBuilt, wantErr := x.plain.replace(first, gone, come)
	if page != wantPage || built != wantBuilt || e != wantErr {
		t.Fatalf("Replace(%d, %d, %v) of %v, whose pages begin with %v: %d, %d, %d, want %d, %d, %d", first, gone, come, lines, starts, page, built, e, wantPage, wantBuilt, wantErr)
	}
	x.plain.agree(t, x.book)
	after := x.book.Starts()
	if !slices.Equal(after[:page], starts[:page]) {
		t.Fatalf("Replace(%d, %d, %v): pages ahead of %d began with %v, now with %v", first, gone, come, page, starts, after)
	}
	return page, built, e
}

// resize does it with both, and tells what both told.
func (x both) resize(t testing.TB, height int) (int, api.Errno) {
	t.Helper()
	many, e := x.book.Resize(height)
	if wantMany, wantErr := x.plain.resize(height); many != wantMany || e != wantErr {
		t.Fatalf("Resize(%d): %d, %d, want %d, %d", height, many, e, wantMany, wantErr)
	}
	x.plain.agree(t, x.book)
	return many, e
}

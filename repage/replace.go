package repage

import (
	"slices"

	"reglet/api"
	"reglet/pages"
)

// Replace: whole paragraphs' lines are others now. The first page that was built anew, and how many were.
func (b *Book) Replace(first, gone int, come []api.Slot) (int, int, api.Errno) {
	if !b.areWhole(first, gone) {
		return 0, 0, api.ErrRange
	}
	if e := pages.Right(come); e != api.OK {
		return 0, 0, e
	}
	page := b.pageToBuild(first)
	ahead, from := b.starts[:page], b.lineOf(page)
	known := b.startsBehind(first+gone, len(come)-gone)
	b.list = slices.Replace(b.list, first, first+gone, come...)
	built, behind := b.build(from, known)
	b.starts = slices.Concat(ahead, built, behind)
	return page, len(built), api.OK
}

// areWhole: are there so many lines from first on, and are they whole paragraphs?
func (b *Book) areWhole(first, gone int) bool {
	if first < 0 || gone < 0 || gone > len(b.list)-first {
		return false
	}
	return b.isSeam(first) && b.isSeam(first+gone)
}

// isSeam: does a paragraph begin with a line, or do the lines end ahead of it?
func (b *Book) isSeam(line int) bool {
	return line == len(b.list) || b.list[line].Index == 0
}

// pageToBuild: the first page that may end elsewhere, if the lines from first on are others. That is the one ahead of first's: a part that begins with first may now be low enough for it, or what held its last lines back may be gone. What the pages ahead of that one had no room for begins and ends ahead of first.
func (b *Book) pageToBuild(first int) int {
	return max(pages.Find(b.starts, first)-1, 0)
}

// lineOf: the line with which a page begins; the first page has one even if there is nothing on it yet.
func (b *Book) lineOf(page int) int {
	if page == 0 {
		return 0
	}
	return b.starts[page]
}

// startsBehind: where the pages begin that begin with a line or behind it, if their lines move by so many.
func (b *Book) startsBehind(line, moved int) []int {
	starts := slices.Clone(b.starts[pages.Find(b.starts, line-1)+1:])
	for page := range starts {
		starts[page] += moved
	}
	return starts
}

// build: where the pages begin from a line on, up to the first one that is known; and the known ones from that one on: where a page ends hangs on no line ahead of it, so that they stay as they are.
func (b *Book) build(line int, known []int) (built, behind []int) {
	for line < len(b.list) {
		if at, found := slices.BinarySearch(known, line); found {
			return built, known[at:]
		}
		built = append(built, line)
		line = pages.Next(b.list, line, b.height, b.set)
	}
	return built, nil
}

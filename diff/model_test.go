package diff_test

import (
	"math"
	"math/big"
	"slices"
	"strconv"
	"testing"

	"reglet/api"
	"reglet/diff"
)

const (
	minInt = math.MinInt
	maxInt = math.MaxInt
)

// named: a line that is known by a letter, and has no field that is zero.
func named(name rune) api.Line {
	list := []api.Run{{Len: 1, Style: int(name) % 5}, {Len: 2, Style: 6}}
	return api.Line{Text: string(name) + "-\n", Runs: list, Num: int(name), Den: 9, Height: 10, Hyphen: true, Y: 5, Begin: true, End: true}
}

// rows: lines, one a letter.
func rows(names string) []api.Line {
	var list []api.Line
	for _, name := range names {
		list = append(list, named(name))
	}
	return list
}

// page: of lines, one a letter.
func page(names string) api.Page { return api.Page{Lines: rows(names)} }

// book: pages, each of lines, one a letter.
func book(names ...string) []api.Page {
	var list []api.Page
	for _, name := range names {
		list = append(list, page(name))
	}
	return list
}

func changed(n, from, old int, names string) api.Region {
	return api.Region{Page: n, Kind: api.Changed, From: from, Old: old, Lines: rows(names)}
}

func added(n int, names string) api.Region {
	return api.Region{Page: n, Kind: api.Added, Lines: rows(names)}
}

func gone(n, old int) api.Region { return api.Region{Page: n, Kind: api.Gone, Old: old} }

// spelt: the style of each byte.
func spelt(list []api.Run) []int {
	var styles []int
	for _, run := range list {
		styles = append(styles, slices.Repeat([]int{run.Style}, max(run.Len, 0))...)
	}
	return styles
}

// same: are two lines, field by field? Told without the layer's own words for it.
func same(a, b api.Line) bool {
	styles := slices.Equal(spelt(a.Runs), spelt(b.Runs))
	a.Runs, b.Runs = nil, nil
	return styles && shape(a) == shape(b)
}

// shape: all that a line has but its runs.
func shape(l api.Line) [8]string {
	return [8]string{
		l.Text, strconv.Itoa(l.Num), strconv.Itoa(l.Den), strconv.Itoa(l.Height),
		strconv.Itoa(l.Y), strconv.FormatBool(l.Hyphen), strconv.FormatBool(l.Begin), strconv.FormatBool(l.End),
	}
}

func sameLines(a, b []api.Line) bool { return slices.EqualFunc(a, b, same) }

func samePages(a, b []api.Page) bool {
	return slices.EqualFunc(a, b, func(x, y api.Page) bool { return sameLines(x.Lines, y.Lines) })
}

func sameRegion(a, b api.Region) bool {
	numbers := a.Page == b.Page && a.Kind == b.Kind && a.From == b.From && a.Old == b.Old
	return numbers && sameLines(a.Lines, b.Lines)
}

func sameRegions(a, b []api.Region) bool { return slices.EqualFunc(a, b, sameRegion) }

// plainEnds: the numbers that P14.1 names, all of them tried, the greatest first.
func plainEnds(a, b api.Page) (int, int) {
	x, y := a.Lines, b.Lines
	most := min(len(x), len(y))
	k, m := most, most
	for !sameLines(x[:k], y[:k]) {
		k--
	}
	for k+m > most || !sameLines(x[len(x)-m:], y[len(y)-m:]) {
		m--
	}
	return k, m
}

// plainPage: what P14.2 says.
func plainPage(n int, a, b api.Page) (api.Region, bool) {
	k, m := plainEnds(a, b)
	ours, theirs := a.Lines[k:len(a.Lines)-m], b.Lines[k:len(b.Lines)-m]
	if len(ours)+len(theirs) == 0 {
		return api.Region{}, false
	}
	return api.Region{Page: n, Kind: api.Changed, From: k, Old: len(ours), Lines: theirs}, true
}

// plainDiff: what P14.3 says, asked of each page that one of them has.
func plainDiff(a, b []api.Page, from int) []api.Region {
	var list []api.Region
	for n := range max(len(a), len(b)) {
		switch {
		case n < from:
		case n >= len(a):
			list = append(list, api.Region{Page: n, Kind: api.Added, Lines: b[n].Lines})
		case n >= len(b):
			list = append(list, api.Region{Page: n, Kind: api.Gone, Old: len(a[n].Lines)})
		default:
			if r, ok := plainPage(n, a[n], b[n]); ok {
				list = append(list, r)
			}
		}
	}
	return list
}

// mayBe: may a region be done, by the words of P14.4 on each alone? ahead: the regions ahead of it.
func mayBe(list []api.Page, r api.Region, ahead []api.Region) bool {
	was := r.Page >= 0 && r.Page < len(list)
	switch r.Kind {
	case api.Changed:
		both := new(big.Int).Add(big.NewInt(int64(r.From)), big.NewInt(int64(r.Old)))
		return was && r.From >= 0 && r.Old >= 0 && both.Cmp(big.NewInt(int64(len(list[r.Page].Lines)))) <= 0
	case api.Added:
		there := len(list)
		for _, x := range ahead {
			if x.Kind == api.Added {
				there++
			}
		}
		return r.Page == there && r.From == 0 && r.Old == 0
	case api.Gone:
		return was && r.From == 0 && r.Old == len(list[r.Page].Lines) && len(r.Lines) == 0
	}
	return false
}

// goneToEnd: is every page behind one that is Gone, too, and is nothing else done behind it?
func goneToEnd(list []api.Page, regions []api.Region) bool {
	for k, r := range regions {
		if r.Kind != api.Gone {
			continue
		}
		for n := r.Page + 1; n < len(list); n++ {
			if !slices.ContainsFunc(regions, func(x api.Region) bool { return x.Page == n && x.Kind == api.Gone }) {
				return false
			}
		}
		if slices.ContainsFunc(regions[k:], func(x api.Region) bool { return x.Kind != api.Gone }) {
			return false
		}
	}
	return true
}

// plainPatch: what P14.4 says, page by page.
func plainPatch(list []api.Page, regions []api.Region) ([]api.Page, api.Errno) {
	for k, r := range regions {
		if k > 0 && regions[k-1].Page >= r.Page || !mayBe(list, r, regions[:k]) {
			return nil, api.ErrPatch
		}
	}
	if !goneToEnd(list, regions) {
		return nil, api.ErrPatch
	}
	var pages []api.Page
	for n, p := range list {
		at := slices.IndexFunc(regions, func(r api.Region) bool { return r.Page == n })
		switch {
		case at < 0:
			pages = append(pages, p)
		case regions[at].Kind == api.Changed:
			r := regions[at]
			var now []api.Line
			now = append(now, p.Lines[:r.From]...)
			now = append(now, r.Lines...)
			now = append(now, p.Lines[r.From+r.Old:]...)
			pages = append(pages, api.Page{Lines: now})
		}
	}
	for _, r := range regions {
		if r.Kind == api.Added {
			pages = append(pages, api.Page{Lines: r.Lines})
		}
	}
	return pages, api.OK
}

// holdsPage holds what is told of two pages against what the chapter says.
func holdsPage(t *testing.T, n int, a, b api.Page) {
	t.Helper()
	if got, want := diff.Alike(a, b), sameLines(a.Lines, b.Lines); got != want {
		t.Fatalf("Alike(%v, %v): %v", a, b, got)
	}
	k, m := diff.Ends(a, b)
	if wantK, wantM := plainEnds(a, b); k != wantK || m != wantM {
		t.Fatalf("Ends(%v, %v): %d, %d, not %d, %d", a, b, k, m, wantK, wantM)
	}
	r, ok := diff.Page(n, a, b)
	if want, wantOK := plainPage(n, a, b); ok != wantOK || !sameRegion(r, want) {
		t.Fatalf("Page(%d, %v, %v): %v, %v, not %v, %v", n, a, b, r, ok, want, wantOK)
	}
}

// holdsDiff holds Diff against what the chapter says.
func holdsDiff(t *testing.T, a, b []api.Page, from int) []api.Region {
	t.Helper()
	got, want := diff.Diff(a, b, from), plainDiff(a, b, from)
	if !sameRegions(got, want) {
		t.Fatalf("Diff(%v, %v, %d): %v, not %v", a, b, from, got, want)
	}
	return got
}

// holdsPatch holds Patch against what the chapter says.
func holdsPatch(t *testing.T, list []api.Page, regions []api.Region) ([]api.Page, api.Errno) {
	t.Helper()
	got, e := diff.Patch(list, regions)
	want, wantE := plainPatch(list, regions)
	if e != wantE || !samePages(got, want) {
		t.Fatalf("Patch(%v, %v): %v, %d, not %v, %d", list, regions, got, e, want, wantE)
	}
	return got, e
}

// holdsBack: does Patch of Diff from 0 on give the second layout, and is there nothing between a layout and itself?
func holdsBack(t *testing.T, a, b []api.Page) []api.Region {
	t.Helper()
	regions := holdsDiff(t, a, b, 0)
	got, e := diff.Patch(a, regions)
	if e != api.OK || !samePages(got, b) {
		t.Fatalf("Patch(%v, %v): %v, %d, not %v", a, regions, got, e, b)
	}
	for _, list := range [][]api.Page{a, b, got} {
		if none := diff.Diff(list, list, 0); len(none) != 0 {
			t.Fatalf("Diff of %v and itself: %v", list, none)
		}
	}
	if none := diff.Diff(got, b, 0); len(none) != 0 {
		t.Fatalf("Diff of what Patch tells and of %v: %v", b, none)
	}
	return regions
}

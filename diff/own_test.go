package diff_test

import (
	"slices"
	"testing"

	"reglet/api"
	"reglet/diff"
)

// spoilRuns changes runs, with their spare room.
func spoilRuns(list []api.Run) {
	list = list[:cap(list)]
	for k := range list {
		list[k] = api.Run{Len: 77, Style: 31}
	}
}

// spoilLines changes lines and all that they have, with their spare room.
func spoilLines(list []api.Line) {
	list = list[:cap(list)]
	for k := range list {
		spoilRuns(list[k].Runs)
		list[k] = api.Line{Text: "spoilt", Y: 77}
	}
}

// spoilPages changes pages and all that they have, with their spare room.
func spoilPages(list []api.Page) {
	list = list[:cap(list)]
	for k := range list {
		spoilLines(list[k].Lines)
		list[k] = api.Page{Lines: rows("spoilt")}
	}
}

// spoilRegions changes regions and all that they have, with their spare room.
func spoilRegions(list []api.Region) {
	list = list[:cap(list)]
	for k := range list {
		spoilLines(list[k].Lines)
		list[k] = api.Region{Page: 77, Kind: 77, From: 77, Old: 77}
	}
}

// exact: are two lists of lines, with the runs cut alike?
func exact(a, b []api.Line) bool {
	return slices.EqualFunc(a, b, func(x, y api.Line) bool { return shape(x) == shape(y) && slices.Equal(x.Runs, y.Runs) })
}

// handed: what is handed in to the calls, all of it in lists with spare room, of which some pages are the same memory.
type handed struct {
	all     []api.Line // the lines of all pages and regions, and those in their spare room
	a, b    []api.Page
	spare   []api.Page // behind b
	regions []api.Region
	after   []api.Region // behind regions
}

func handedIn() handed {
	all := rows("abcdefgxyz")
	for k := range all {
		all[k].Runs = append(all[k].Runs, api.Run{Len: 9, Style: 9})[:2]
	}
	twice := api.Page{Lines: all[1:4]}
	pages := []api.Page{{Lines: all[0:3]}, twice, twice, {Lines: all[0:0]}, {Lines: all[2:6]}, {Lines: all[6:7]}, {Lines: all[7:9]}}
	regions := []api.Region{
		{Page: 0, Kind: api.Changed, From: 1, Old: 1, Lines: all[7:9]},
		{Page: 1, Kind: api.Changed, From: 0, Old: 0, Lines: all[7:9]},
		{Page: 3, Kind: api.Added, Lines: all[7:9]},
		{Page: 4, Kind: api.Added, Lines: all[1:4]},
		{Page: 5, Kind: api.Added, Lines: all[9:10]},
	}
	return handed{all: all, a: pages[:3], b: pages[1:6], spare: pages[6:], regions: regions[:4], after: regions[4:]}
}

// holds: is all that was handed in as it was?
func (h handed) holds(t *testing.T, from string) {
	t.Helper()
	other := handedIn()
	runs := func(list []api.Line) (room []api.Run) {
		for _, l := range list {
			room = append(room, l.Runs[:3]...)
		}
		return room
	}
	if !exact(h.all, other.all) || !slices.Equal(runs(h.all), runs(other.all)) {
		t.Errorf("%s: the lines handed in became %v", from, h.all)
	}
	if !samePages(h.a, other.a) || !samePages(h.b, other.b) || !samePages(h.spare, other.spare) {
		t.Errorf("%s: the pages handed in became %v, %v, %v", from, h.a, h.b, h.spare)
	}
	if !sameRegions(h.regions, other.regions) || !sameRegions(h.after, other.after) {
		t.Errorf("%s: the regions handed in became %v, %v", from, h.regions, h.after)
	}
}

// spoil changes all that was handed in.
func (h handed) spoil() {
	spoilLines(h.all)
	spoilPages(h.a)
	spoilRegions(h.regions)
}

// P2, rule 4: what is handed in isn't changed, with its spare room, by no call, refused ones among them.
func TestHandedInIsNotChanged(t *testing.T) {
	h := handedIn()
	diff.Alike(h.a[0], h.b[1])
	diff.Alike(h.a[1], h.a[2])
	diff.Ends(h.a[0], h.b[3])
	diff.Page(0, h.a[0], h.b[3])
	h.holds(t, "Alike, Ends, Page")
	diff.Diff(h.a, h.b, 0)
	diff.Diff(h.b, h.a, 1)
	h.holds(t, "Diff")
	if _, e := diff.Patch(h.a, h.regions); e != api.OK {
		t.Errorf("Patch: %d", e)
	}
	h.holds(t, "Patch")
	if _, e := diff.Patch(h.b, h.regions); e != api.ErrPatch {
		t.Errorf("Patch: %d", e)
	}
	h.holds(t, "Patch that is refused")
	if _, e := diff.Patch(h.b, diff.Diff(h.b, h.a, 0)); e != api.OK {
		t.Errorf("Patch: %d", e)
	}
	h.holds(t, "Patch with pages Gone")
	diff.Copy(h.a)
	diff.Copy(h.b)
	diff.Count(h.regions)
	h.holds(t, "Copy, Count")
}

// P2, rule 4: what is told is new: to change it changes nothing that was handed in.
func TestToldIsNew(t *testing.T) {
	h := handedIn()
	r, _ := diff.Page(0, h.a[0], h.b[3])
	spoilRegions([]api.Region{r})
	h.holds(t, "Page")
	for _, from := range []int{0, 1, 3} {
		spoilRegions(diff.Diff(h.a, h.b, from))
		spoilRegions(diff.Diff(h.b, h.a, from))
		h.holds(t, "Diff")
	}
	for _, regions := range [][]api.Region{nil, h.regions, h.regions[:1], h.regions[1:2], h.regions[2:], {gone(2, 3)}} {
		list, e := diff.Patch(h.a, regions)
		if e != api.OK {
			t.Errorf("Patch: %d", e)
		}
		spoilPages(list)
		h.holds(t, "Patch")
	}
	spoilPages(diff.Copy(h.a))
	spoilPages(diff.Copy(h.b))
	h.holds(t, "Copy")
}

// P2, rule 4: what is handed in isn't kept: to change it later changes nothing that was told.
func TestHandedInIsNotKept(t *testing.T) {
	h, other := handedIn(), handedIn()
	r, _ := diff.Page(0, h.a[0], h.b[3])
	regions := diff.Diff(h.a, h.b, 0)
	pages, _ := diff.Patch(h.a, h.regions)
	as, _ := diff.Patch(h.a, nil)
	copied := diff.Copy(h.b)
	h.spoil()

	if want, _ := plainPage(0, other.a[0], other.b[3]); !sameRegion(r, want) {
		t.Errorf("Page's region became %v", r)
	}
	wantRegions(t, regions, plainDiff(other.a, other.b, 0)...)
	if want, _ := plainPatch(other.a, other.regions); !samePages(pages, want) {
		t.Errorf("Patch's pages became %v", pages)
	}
	if !samePages(as, other.a) {
		t.Errorf("Patch's pages, by no regions, became %v", as)
	}
	if !samePages(copied, other.b) {
		t.Errorf("Copy's pages became %v", copied)
	}
}

// P2, rule 4: no two pages or regions that are told share memory, where those handed in do.
func TestToldSharesNothing(t *testing.T) {
	h := handedIn()
	for from := range 5 {
		regions := diff.Diff(nil, h.b, from)
		for k := range regions {
			spoilLines(regions[k].Lines)
			wantRegions(t, regions[k+1:], plainDiff(nil, h.b, from)[k+1:]...)
		}
	}
	apart := func(list, want []api.Page) {
		t.Helper()
		for k := range list {
			spoilLines(list[k].Lines)
			if !samePages(list[k+1:], want[k+1:]) {
				t.Errorf("a change of page %d made the others %v", k, list[k+1:])
			}
		}
	}
	list, _ := diff.Patch(h.a, h.regions)
	want, _ := plainPatch(h.a, h.regions)
	apart(list, want)
	list, _ = diff.Patch(h.a, nil)
	apart(list, h.a)
	apart(diff.Copy(h.b), h.b)
	// Line by line, too: lines of one page may be handed in with the same runs.
	same := []api.Page{{Lines: []api.Line{h.all[0], h.all[0], h.all[0]}}}
	for _, list := range [][]api.Page{diff.Copy(same), {{Lines: diff.Diff(nil, same, 0)[0].Lines}}} {
		spoilLines(list[0].Lines[:1:1])
		if !sameLines(list[0].Lines[1:], same[0].Lines[1:]) {
			t.Errorf("a change of a line made the others %v", list[0].Lines[1:])
		}
	}
	h.holds(t, "all")
}

// P2, rule 4: what is told twice is told anew, and hangs on nothing that was called ahead.
func TestToldTwice(t *testing.T) {
	h := handedIn()
	first, again := diff.Diff(h.a, h.b, 0), diff.Diff(h.a, h.b, 0)
	spoilRegions(first)
	wantRegions(t, again, plainDiff(h.a, h.b, 0)...)
	pages, more := diff.Copy(h.b), diff.Copy(h.b)
	spoilPages(pages)
	if !samePages(more, h.b) {
		t.Errorf("a change of a copy made another %v", more)
	}
	done, e := diff.Patch(h.a, h.regions)
	after, _ := diff.Patch(h.a, h.regions)
	spoilPages(done)
	if want, _ := plainPatch(h.a, h.regions); e != api.OK || !samePages(after, want) {
		t.Errorf("a change of patched pages made others %v", after)
	}
}

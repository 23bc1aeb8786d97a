package diff_test

import (
	"testing"

	"reglet/api"
	"reglet/diff"
)

func wantRegions(t *testing.T, got []api.Region, want ...api.Region) {
	t.Helper()
	if !sameRegions(got, want) {
		t.Errorf("the regions are %v, not %v", got, want)
	}
}

// The chapter's example.
func TestExample(t *testing.T) {
	wantRegions(t, diff.Diff(book("abc"), book("axc"), 0), changed(0, 1, 1, "x"))
}

// P14.3: pages that both have, and that one of them has alone.
func TestDiff(t *testing.T) {
	tests := []struct {
		a, b []string
		want []api.Region
	}{
		{nil, nil, nil},
		{[]string{"ab"}, []string{"ab"}, nil},
		{[]string{""}, []string{""}, nil},
		{[]string{"ab", "cd", "ef"}, []string{"ab", "cd", "ef"}, nil},
		{[]string{"ab", "cd", "ef"}, []string{"ab", "cx", "ef"}, []api.Region{changed(1, 1, 1, "x")}},
		{[]string{"ab", "cd", "ef"}, []string{"xb", "cd", "efg"}, []api.Region{changed(0, 0, 1, "x"), changed(2, 2, 0, "g")}},
		{[]string{"ab", "cd", "ef"}, []string{"b", "", "xy"}, []api.Region{changed(0, 0, 1, ""), changed(1, 0, 2, ""), changed(2, 0, 2, "xy")}},
		// More pages than there were.
		{nil, []string{"ab", "", "c"}, []api.Region{added(0, "ab"), added(1, ""), added(2, "c")}},
		{[]string{"ab"}, []string{"ab", "ab"}, []api.Region{added(1, "ab")}},
		{[]string{"ab"}, []string{"a", "b"}, []api.Region{changed(0, 1, 1, ""), added(1, "b")}},
		{[]string{"ab", "cd"}, []string{"ab", "xd", "", "ef"}, []api.Region{changed(1, 0, 1, "x"), added(2, ""), added(3, "ef")}},
		// Fewer pages than there were.
		{[]string{"ab", "", "c"}, nil, []api.Region{gone(0, 2), gone(1, 0), gone(2, 1)}},
		{[]string{"ab", "ab"}, []string{"ab"}, []api.Region{gone(1, 2)}},
		{[]string{"a", "b"}, []string{"ab"}, []api.Region{changed(0, 1, 0, "b"), gone(1, 1)}},
		{[]string{"ab", "xd", "", "ef"}, []string{"ab", "cd"}, []api.Region{changed(1, 0, 1, "c"), gone(2, 0), gone(3, 2)}},
		// Pages are held against those of their own number, not moved.
		{[]string{"ab", "cd"}, []string{"x", "ab", "cd"}, []api.Region{changed(0, 0, 2, "x"), changed(1, 0, 2, "ab"), added(2, "cd")}},
	}
	for _, test := range tests {
		a, b := book(test.a...), book(test.b...)
		wantRegions(t, diff.Diff(a, b, 0), test.want...)
		holdsBack(t, a, b)
		holdsBack(t, b, a)
	}
}

// P14.3: pages ahead of from aren't told of, whatever they are; from below 0 is 0.
func TestDiffFrom(t *testing.T) {
	same, more, less := book("ab", "cd", "ef"), book("ax", "cx", "ex", "g", ""), book("y")
	all := []api.Region{changed(0, 1, 1, "x"), changed(1, 1, 1, "x"), changed(2, 1, 1, "x"), added(3, "g"), added(4, "")}
	fewer := []api.Region{changed(0, 0, 2, "y"), gone(1, 2), gone(2, 2)}
	for _, from := range []int{minInt, -1, 0} {
		wantRegions(t, diff.Diff(same, more, from), all...)
		wantRegions(t, diff.Diff(same, less, from), fewer...)
		wantRegions(t, diff.Diff(same, same, from))
	}
	for from := range 5 {
		wantRegions(t, diff.Diff(same, more, from), all[from:]...)
	}
	for from := range 3 {
		wantRegions(t, diff.Diff(same, less, from), fewer[from:]...)
	}
	for _, from := range []int{5, 6, 100, maxInt} {
		wantRegions(t, diff.Diff(same, more, from))
		wantRegions(t, diff.Diff(more, same, from))
		wantRegions(t, diff.Diff(same, same, from))
		wantRegions(t, diff.Diff(nil, nil, from))
	}
	for _, from := range []int{3, 4, maxInt} {
		wantRegions(t, diff.Diff(same, less, from))
		wantRegions(t, diff.Diff(less, same, from))
	}
}

// layouts: all of up to three pages of some kinds.
func layouts(kinds ...string) [][]api.Page {
	list := [][]api.Page{nil}
	for from, n := 0, 0; n < 3; n++ {
		to := len(list)
		for _, names := range list[from:to] {
			for _, kind := range kinds {
				list = append(list, append(diff.Copy(names), page(kind)))
			}
		}
		from = to
	}
	return list
}

// P14.3, P14.6: all layouts of a few pages against each other.
func TestShortLayouts(t *testing.T) {
	all := layouts("", "a", "ab", "ba")
	for _, a := range all {
		for _, b := range all {
			holdsBack(t, a, b)
			for from := -1; from <= 4; from++ {
				holdsDiff(t, a, b, from)
			}
		}
	}
}

// P14.5: pages alike, as many of them.
func TestCopy(t *testing.T) {
	for _, list := range [][]api.Page{nil, {}, book(""), book("a"), book("abc", "", "abc", "d"), make([]api.Page, 100)} {
		if got := diff.Copy(list); !samePages(got, list) {
			t.Errorf("Copy of %v: %v", list, got)
		}
	}
	var many []api.Page
	for n := range 2000 {
		many = append(many, page("abcdefgh"[n%8:]))
	}
	if !samePages(diff.Copy(many), many) {
		t.Error("a copy of many pages isn't alike")
	}
}

// P14.5: of regions of all kinds, whatever else they have.
func TestCount(t *testing.T) {
	tests := []struct {
		regions []api.Region
		in, out int
	}{
		{nil, 0, 0},
		{[]api.Region{}, 0, 0},
		{[]api.Region{{}}, 0, 0},
		{[]api.Region{changed(3, 1, 2, "xyz")}, 3, 2},
		{[]api.Region{changed(3, 9, 0, "x")}, 1, 0},
		{[]api.Region{changed(3, 9, 4, "")}, 0, 4},
		{[]api.Region{added(3, "xyz")}, 3, 0},
		{[]api.Region{gone(3, 7)}, 0, 7},
		{[]api.Region{changed(0, 1, 2, "xyz"), changed(1, 0, 5, "x"), added(2, "ab"), added(3, "")}, 6, 7},
		{[]api.Region{changed(0, 1, 2, "xyz"), gone(1, 10), gone(2, 0), gone(3, 100)}, 3, 112},
		// Lines and Old count in regions that no Diff tells, too.
		{[]api.Region{{Page: 5, Kind: 9, Old: -3, Lines: rows("ab")}, {Page: -5, Old: maxInt}}, 2, maxInt - 3},
		{[]api.Region{gone(1, maxInt), gone(1, minInt)}, 0, -1},
	}
	for _, test := range tests {
		if in, out := diff.Count(test.regions); in != test.in || out != test.out {
			t.Errorf("Count of %v: %d, %d", test.regions, in, out)
		}
	}
}

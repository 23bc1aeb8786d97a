package diff_test

import (
	"strings"
	"testing"

	"reglet/api"
	"reglet/diff"
)

// P14.1: as many lines, and each the same at its place.
func TestAlike(t *testing.T) {
	tests := []struct {
		a, b string
		want bool
	}{
		{"", "", true},
		{"", "a", false},
		{"a", "a", true},
		{"a", "b", false},
		{"abcde", "abcde", true},
		{"abcde", "xbcde", false},
		{"abcde", "abxde", false},
		{"abcde", "abcdx", false},
		{"abcde", "abcd", false},
		{"abcde", "bcde", false},
		{"abcde", "abde", false},
		{"abcde", "edcba", false},
		{"aaaa", "aaaa", true},
		{"aaaa", "aaa", false},
	}
	for _, test := range tests {
		a, b := page(test.a), page(test.b)
		if diff.Alike(a, b) != test.want || diff.Alike(b, a) != test.want {
			t.Errorf("Alike of %q and %q: %v, %v", test.a, test.b, diff.Alike(a, b), diff.Alike(b, a))
		}
	}
	if !diff.Alike(api.Page{}, api.Page{Lines: []api.Line{}}) {
		t.Error("pages without lines aren't alike")
	}
}

// unlike: the line named l, with one field that is another.
func unlike() map[string]api.Line {
	list := map[string]api.Line{}
	put := func(field string, change func(l *api.Line)) {
		l := named('l')
		change(&l)
		list[field] = l
	}
	put("Text", func(l *api.Line) { l.Text = "l--" })
	put("style", func(l *api.Line) { l.Runs[1].Style++ })
	put("one run less", func(l *api.Line) { l.Runs = l.Runs[:1] })
	put("no runs", func(l *api.Line) { l.Runs = nil })
	put("runs elsewhere", func(l *api.Line) { l.Runs[0].Len, l.Runs[1].Len = 2, 1 })
	put("Num", func(l *api.Line) { l.Num++ })
	put("Den", func(l *api.Line) { l.Den++ })
	put("Height", func(l *api.Line) { l.Height++ })
	put("Hyphen", func(l *api.Line) { l.Hyphen = false })
	put("Y", func(l *api.Line) { l.Y++ })
	put("Begin", func(l *api.Line) { l.Begin = false })
	put("End", func(l *api.Line) { l.End = false })
	return list
}

// P14.1, P14.2: two lines are the same, if all of their fields are: what differs in one alone ends what is alike.
func TestEveryField(t *testing.T) {
	for field, other := range unlike() {
		for at := range 3 {
			a, b := page("lll"), page("lll")
			b.Lines[at] = other
			if diff.Alike(a, b) || diff.Alike(b, a) {
				t.Errorf("alike, though line %d differs: %s", at, field)
			}
			if k, m := diff.Ends(a, b); k != at || m != 2-at {
				t.Errorf("Ends, where line %d differs (%s): %d, %d", at, field, k, m)
			}
			r, ok := diff.Page(4, a, b)
			if !ok || r.From != at || r.Old != 1 || !sameLines(r.Lines, []api.Line{other}) {
				t.Errorf("Page, where line %d differs (%s): %v, %v", at, field, r, ok)
			}
			holdsBack(t, []api.Page{a}, []api.Page{b})
		}
	}
}

// P14.1: runs are the same as runs.Same tells: as styles of bytes, wherever they are cut.
func TestRunsCutOtherwise(t *testing.T) {
	a, b := page("alb"), page("alb")
	b.Lines[1].Runs = []api.Run{{Len: 0, Style: 9}, {Len: 1, Style: int('l') % 5}, {Len: 1, Style: 6}, {Len: 1, Style: 6}}
	if !diff.Alike(a, b) {
		t.Error("lines whose runs are cut otherwise aren't alike")
	}
	if k, m := diff.Ends(a, b); k != 3 || m != 0 {
		t.Errorf("Ends: %d, %d", k, m)
	}
	if got := diff.Diff([]api.Page{a}, []api.Page{b}, 0); len(got) != 0 {
		t.Errorf("Diff: %v", got)
	}
	holdsBack(t, []api.Page{a}, []api.Page{b})
}

// P14.1: first as many as there are at the front, then as many as there are at the back of what is left.
func TestEnds(t *testing.T) {
	tests := []struct {
		a, b string
		k, m int
	}{
		{"", "", 0, 0},
		{"abc", "abc", 3, 0},
		{"a", "a", 1, 0},
		{"abc", "xyz", 0, 0},
		{"abcd", "dcba", 0, 0},
		{"abc", "", 0, 0},
		{"abc", "ab", 2, 0},
		{"abc", "a", 1, 0},
		{"abc", "bc", 0, 2},
		{"abc", "c", 0, 1},
		{"abc", "b", 0, 0},
		{"abc", "axc", 1, 1},
		{"abc", "ac", 1, 1},
		{"abc", "xbc", 0, 2},
		{"abc", "abx", 2, 0},
		{"abcde", "abxyde", 2, 2},
		{"abcba", "aba", 2, 1},
		// The same lines over and over: those at the front are counted first.
		{"aaaa", "aa", 2, 0},
		{"aaaa", "aaaa", 4, 0},
		{"aab", "ab", 1, 1},
		{"abb", "ab", 2, 0},
		{"aabaa", "aaaa", 2, 2},
		{"aabaa", "aaa", 2, 1},
		{"abab", "ababab", 4, 0},
		{"xabab", "abab", 0, 4},
		{"aaaab", "aab", 2, 1},
		{"abaaa", "abaa", 4, 0},
	}
	for _, test := range tests {
		a, b := page(test.a), page(test.b)
		if k, m := diff.Ends(a, b); k != test.k || m != test.m {
			t.Errorf("Ends of %q and %q: %d, %d", test.a, test.b, k, m)
		}
		if k, m := diff.Ends(b, a); k != test.k || m != test.m {
			t.Errorf("Ends of %q and %q: %d, %d", test.b, test.a, k, m)
		}
	}
}

// P14.2: what lies between the ends.
func TestPage(t *testing.T) {
	tests := []struct {
		a, b      string
		from, old int
		lines     string
	}{
		{"abc", "axc", 1, 1, "x"}, // the chapter's example
		{"abcd", "axd", 1, 2, "x"},
		{"abd", "axyd", 1, 1, "xy"},
		{"abc", "xyz", 0, 3, "xyz"},
		{"abc", "xbc", 0, 1, "x"},
		{"abc", "abx", 2, 1, "x"},
		// Lines of b alone.
		{"", "ab", 0, 0, "ab"},
		{"ac", "abc", 1, 0, "b"},
		{"bc", "abc", 0, 0, "a"},
		{"ab", "abc", 2, 0, "c"},
		{"aa", "aaaa", 2, 0, "aa"},
		// Lines of a alone.
		{"ab", "", 0, 2, ""},
		{"abc", "ac", 1, 1, ""},
		{"abc", "bc", 0, 1, ""},
		{"abc", "ab", 2, 1, ""},
		{"aaaa", "aa", 2, 2, ""},
	}
	for _, test := range tests {
		for _, n := range []int{0, 1, 77, -1, minInt, maxInt} {
			r, ok := diff.Page(n, page(test.a), page(test.b))
			if !ok || !sameRegion(r, changed(n, test.from, test.old, test.lines)) {
				t.Errorf("Page(%d) of %q and %q: %v, %v", n, test.a, test.b, r, ok)
			}
		}
	}
}

// P14.2 and rule 2: where nothing lies between, nothing is told.
func TestPageOfNothing(t *testing.T) {
	for _, names := range []string{"", "a", "abc", "aaaa"} {
		for _, n := range []int{0, 5, -1, maxInt} {
			r, ok := diff.Page(n, page(names), page(names))
			if ok || !sameRegion(r, api.Region{}) {
				t.Errorf("Page(%d) of %q and itself: %v, %v", n, names, r, ok)
			}
		}
	}
}

// short: all texts of some letters, up to so many of them.
func short(letters string, most int) []string {
	list := []string{""}
	for from := 0; most > 0; most-- {
		to := len(list)
		for _, s := range list[from:to] {
			for _, c := range letters {
				list = append(list, s+string(c))
			}
		}
		from = to
	}
	return list
}

// P14.1, P14.2: all pages of a few lines against each other.
func TestShortPages(t *testing.T) {
	for _, all := range [][]string{short("ab", 5), short("abc", 3)} {
		for n, a := range all {
			for _, b := range all {
				holdsPage(t, n, page(a), page(b))
			}
		}
	}
}

// P1: pages of many lines, the same over and over, are held against each other in one go.
func TestLongPages(t *testing.T) {
	const many = 60000
	a := page(strings.Repeat("a", many))
	b := page(strings.Repeat("a", many-1))
	if k, m := diff.Ends(a, b); k != many-1 || m != 0 {
		t.Errorf("Ends: %d, %d", k, m)
	}
	b = page(strings.Repeat("a", many/2) + "x" + strings.Repeat("a", many))
	if k, m := diff.Ends(a, b); k != many/2 || m != many/2 {
		t.Errorf("Ends: %d, %d", k, m)
	}
	if r, ok := diff.Page(3, a, b); !ok || r.From != many/2 || r.Old != 0 || len(r.Lines) != many/2+1 {
		t.Errorf("Page: %d, %d, %d, %v", r.From, r.Old, len(r.Lines), ok)
	}
}

// P1: lines with numbers and runs that no layout has.
func TestWrongLines(t *testing.T) {
	odd := api.Line{Text: "\xff", Runs: []api.Run{{Len: minInt, Style: -1}, {Len: maxInt, Style: 99}, {Len: maxInt, Style: 99}}, Num: minInt, Den: 0, Height: minInt, Y: maxInt}
	a := api.Page{Lines: []api.Line{odd, odd}}
	b := api.Page{Lines: []api.Line{odd, named('a'), odd}}
	if k, m := diff.Ends(a, b); k != 1 || m != 1 {
		t.Errorf("Ends: %d, %d", k, m)
	}
	regions := diff.Diff([]api.Page{a}, []api.Page{b, a}, 0)
	got, e := diff.Patch([]api.Page{a}, regions)
	if e != api.OK || len(got) != 2 || !diff.Alike(got[0], b) || !diff.Alike(got[1], a) {
		t.Errorf("Patch: %v, %d", got, e)
	}
}

package lines_test

import (
	"math"
	"slices"
	"strings"
	"testing"

	"reglet/api"
	"reglet/lines"
	"reglet/measure"
)

// narrow: no line has room: lines end wherever they may.
const narrow = 1

// holdsLines: a paragraph in a width has these lines, told by their bytes, and a hyphen at the end of these of them.
func holdsLines(t *testing.T, k task, width int, want []string, hyphens ...int) []api.Line {
	t.Helper()
	got, _ := k.holds(t, width, tolerant(10000))
	if !slices.Equal(texts(got), want) {
		t.Errorf("the lines of %q for %d: %q, not %q", k.text, width, texts(got), want)
	}
	for n, l := range got {
		if l.Hyphen != slices.Contains(hyphens, n) {
			t.Errorf("line %d of %q, %q: Hyphen %v", n, k.text, l.Text, l.Hyphen)
		}
		if l.Begin != (n == 0) || l.End != (n == len(got)-1) {
			t.Errorf("line %d of %d of %q: Begin %v, End %v", n, len(got), k.text, l.Begin, l.End)
		}
	}
	return got
}

// P10.2: where lines end at each kind of break, and what is left out of both lines.
func TestLineEnds(t *testing.T) {
	m := made(t, styles())
	for _, c := range []struct {
		text    string
		want    []string
		hyphens []int
	}{
		// At glue: its bytes are those of the line ahead.
		{"aa bb\n", []string{"aa ", "bb\n"}, nil},
		{"aa\tbb", []string{"aa\t", "bb"}, nil},
		// Further glue behind it is no line's glue, but the line ahead has its bytes.
		{"aa   bb\n", []string{"aa   ", "bb\n"}, nil},
		{"aa \t bb \u00e9", []string{"aa \t ", "bb ", "\u00e9"}, nil},
		// Glue without a Box right ahead is no break, and begins the first line.
		{"  aa\n", []string{"  aa\n"}, nil},
		// At a soft hyphen, with its own bytes and those that are left out.
		{"aa\u00adbb\n", []string{"aa\u00ad", "bb\n"}, []int{0}},
		{"aa\u00ad  bb", []string{"aa\u00ad  ", "bb"}, []int{0}},
		{"aa\u00ad\u2060bb", []string{"aa\u00ad\u2060", "bb"}, []int{0}},
		// At a hyphen of the text: the line has it anyway.
		{"aa-bb\n", []string{"aa-", "bb\n"}, nil},
		{"a\u2010b", []string{"a\u2010", "b"}, nil},
		{"aa- bb", []string{"aa- ", "bb"}, nil},
		{"--a", []string{"-", "-", "a"}, nil},
		// At a gap; a joiner ends none.
		{"aa\u200bbb", []string{"aa\u200b", "bb"}, nil},
		{"aa\u200b bb", []string{"aa\u200b ", "bb"}, nil},
		{"aa\u2060bb\ufeffcc", []string{"aa\u2060bb\ufeffcc"}, nil},
		// At a Forced item in the middle: what is behind it begins the next line, but glue, which is left out.
		{"aa\u2028bb\n", []string{"aa\u2028", "bb\n"}, nil},
		{"aa \u2028 bb\n", []string{"aa ", "\u2028 ", "bb\n"}, nil},
		{"aa\u2028\u2028bb", []string{"aa\u2028", "\u2028", "bb"}, nil},
		{"\u2028\n", []string{"\u2028", "\n"}, nil},
		{"\u2028 \t\n", []string{"\u2028 \t", "\n"}, nil},
		// The next break comes ahead of all that could begin a line: the line begins with that break.
		{"aa \u00adbb", []string{"aa ", "\u00ad", "bb"}, []int{1}},
		{"aa  \u00ad bb", []string{"aa  ", "\u00ad ", "bb"}, []int{1}},
		{"aa\u00ad\u00ad\u00adbb", []string{"aa\u00ad", "\u00ad", "\u00ad", "bb"}, []int{0, 1, 2}},
		{"aa\u200b \u200b\u2060\u00ad bb", []string{"aa\u200b ", "\u200b\u2060", "\u00ad ", "bb"}, []int{2}},
		{"aa \u200b\n", []string{"aa ", "\u200b", "\n"}, nil},
		{"\u00ad\u00ada", []string{"\u00ad", "\u00ad", "a"}, []int{0, 1}},
		// Fast is a letter.
		{"a\u00a0b c\u202fd", []string{"a\u00a0b ", "c\u202fd"}, nil},
	} {
		for style := range styles() {
			holdsLines(t, given(t, m, c.text, whole(c.text, style)), narrow, c.want, c.hyphens...)
		}
	}
}

// P10.2: lines that end at a break that isn't the first one that they could end at.
func TestLineEndsWithRoom(t *testing.T) {
	m := made(t, styles())
	for _, c := range []struct {
		text    string
		width   int
		want    []string
		hyphens []int
	}{
		{"aa bb cc dd", 30, []string{"aa bb ", "cc dd"}, nil},
		{"aa bb-cc dd", 36, []string{"aa bb-", "cc dd"}, nil},
		{"aa bb\u00adcc dd", 34, []string{"aa bb\u00ad", "cc dd"}, []int{0}},
		{"aa bb\u2028cc dd", 30, []string{"aa bb\u2028", "cc dd"}, nil},
		{"aa bb\u2028  cc dd", 30, []string{"aa bb\u2028  ", "cc dd"}, nil},
		{"a\u00adb c\u200bdd e\n", 24, []string{"a\u00adb c\u200b", "dd e\n"}, nil},
	} {
		holdsLines(t, given(t, m, c.text, whole(c.text, 0)), c.width, c.want, c.hyphens...)
	}
}

// P10.2: a line without bytes, behind all of the paragraph's, is as high as the paragraph's last byte.
func TestLineWithoutBytes(t *testing.T) {
	m := made(t, styles())
	for _, c := range []struct{ head, tail string }{
		{"a", " "}, {"a ", " "}, {"a", "-"}, {"a", "\u00ad"}, {"a", "\u200b"}, {"a", "\u2028"}, {"", "\u2028"}, {"a b-", "\u2060"}, {"a\u2028", "\u2028"},
	} {
		text := c.head + c.tail
		for style, s := range styles() {
			// Others have other heights: the styles of what is ahead, and of an empty run behind.
			list := cut(len(c.head), (style+1)%3, len(c.tail), style, 0, (style+2)%3)
			got, _ := given(t, m, text, list).holds(t, narrow, tolerant(10000))
			want := api.Line{Den: 1, Height: s.Height, End: true}
			if last := got[len(got)-1]; len(got) < 2 || !alike(last, want) {
				t.Errorf("the last line of %q, %v: %+v, not %+v", text, list, last, want)
			}
		}
	}
	// With a line end it has that.
	got, _ := given(t, m, "a-\n", cut(2, 1, 1, 2)).holds(t, narrow, tolerant(10000))
	if len(got) != 2 || got[1].Text != "\n" || got[1].Height != 7 {
		t.Errorf("with a line end: %+v", got)
	}
}

// P10.2: runs that begin and end within a line, at its ends, and beyond them; none is empty, none has the style of the one ahead.
func TestLineRuns(t *testing.T) {
	m := made(t, styles())
	const text = "aa bb cc\n" // lines of the bytes 0 to 3, 3 to 6 and 6 to 9
	for _, c := range []struct {
		list    []api.Run
		want    [][]api.Run
		heights []int
	}{
		{cut(9, 0), [][]api.Run{cut(3, 0), cut(3, 0), cut(3, 0)}, []int{12, 12, 12}},
		{cut(3, 0, 3, 1, 3, 2), [][]api.Run{cut(3, 0), cut(3, 1), cut(3, 2)}, []int{12, 30, 7}},
		{cut(1, 0, 7, 1, 1, 2), [][]api.Run{cut(1, 0, 2, 1), cut(3, 1), cut(2, 1, 1, 2)}, []int{30, 30, 30}},
		{cut(4, 2, 1, 0, 4, 2), [][]api.Run{cut(3, 2), cut(1, 2, 1, 0, 1, 2), cut(3, 2)}, []int{7, 12, 7}},
		// Empty ones, and several of one style, also over the end of a line.
		{cut(1, 0, 1, 0, 2, 0, 2, 2, 1, 2, 2, 2), [][]api.Run{cut(3, 0), cut(1, 0, 2, 2), cut(3, 2)}, []int{12, 12, 7}},
		{cut(0, 1, 3, 0, 0, 1, 1, 0, 0, 2, 5, 0, 0, 1), [][]api.Run{cut(3, 0), cut(3, 0), cut(3, 0)}, []int{12, 12, 12}},
		{cut(0, 1, 0, 0, 6, 2, 0, 1, 3, 2), [][]api.Run{cut(3, 2), cut(3, 2), cut(3, 2)}, []int{7, 7, 7}},
		// The line's last byte, that is left out, counts as well.
		{cut(2, 2, 1, 1, 6, 2), [][]api.Run{cut(2, 2, 1, 1), cut(3, 2), cut(3, 2)}, []int{30, 7, 7}},
		{cut(1, 0, 1, 1, 1, 2, 1, 0, 1, 1, 1, 2, 1, 0, 1, 1, 1, 2), [][]api.Run{cut(1, 0, 1, 1, 1, 2), cut(1, 0, 1, 1, 1, 2), cut(1, 0, 1, 1, 1, 2)}, []int{30, 30, 30}},
	} {
		got, _ := given(t, m, text, c.list).holds(t, narrow, tolerant(10000))
		for n, l := range got {
			if len(got) != 3 || !slices.Equal(l.Runs, c.want[n]) || l.Height != c.heights[n] {
				t.Errorf("line %d in %v: %v, Height %d", n, c.list, l.Runs, l.Height)
			}
		}
	}
}

// P10.2: how the glue is set: not at all, stretched, shrunk, filled, and where the line is Over, with something to shrink and without.
func TestLineGlue(t *testing.T) {
	m := made(t, styles())
	for _, c := range []struct {
		text     string
		breaks   []int
		width    int
		num, den int // of the first line
	}{
		{"aa bb cc", []int{3, 6}, 30, 0, 1},    // just as wide
		{"aa bb cc", []int{3, 6}, 31, 1, 3},    // by 1, stretch 3
		{"aa bb cc", []int{3, 6}, 36, 2, 1},    // by 6
		{"a a b c", []int{5, 8}, 34, 2, 3},     // by 4, stretch 6
		{"aa bb cc", []int{3, 6}, 29, -1, 2},   // by 1, shrink 2
		{"a a b c", []int{5, 8}, 28, -1, 2},    // by 2, shrink 4
		{"aa bb cc", []int{3, 6}, 28, -1, 1},   // all of it
		{"aa bb cc", []int{3, 6}, 27, -1, 1},   // Over
		{"aa bb cc", []int{1, 3, 6}, 5, 0, 1},  // Over, with nothing to shrink
		{"aa bb cc", []int{1, 3, 6}, 50, 0, 1}, // nothing to stretch
		{"aa bb cc", []int{6}, 300, 0, 1},      // filled
		{"aa bb cc", []int{6}, 47, -1, 4},      // filled, but shrunk by 1, shrink 4
		{"aa\u00adbb cc", []int{1, 6}, 16, 0, 1},
	} {
		got := given(t, m, c.text, whole(c.text, 0)).holdsLaid(t, c.breaks, c.width)
		if got[0].Num != c.num || got[0].Den != c.den {
			t.Errorf("%q, %v for %d: %d by %d, not %d by %d", c.text, c.breaks, c.width, got[0].Num, got[0].Den, c.num, c.den)
		}
	}
}

// P10.2: the glue of later lines goes by the break ahead: what is left out doesn't count.
func TestLaterGlue(t *testing.T) {
	m := made(t, styles())
	const text = "aa   bb cc  dd ee\n" // Glue at 1 to 3, 5, 7 and 8, 10
	k := given(t, m, text, whole(text, 0))
	got := k.holdsLaid(t, []int{1, 7, 13}, 33)
	for n, want := range []api.Line{{Text: "aa   ", Num: 0, Den: 1}, {Text: "bb cc  ", Num: 1, Den: 1}, {Text: "dd ee\n", Num: 0, Den: 1}} {
		if l := got[n]; l.Text != want.Text || l.Num != want.Num || l.Den != want.Den {
			t.Errorf("line %d: %+v", n, l)
		}
	}
}

// P10.2: Cuts of every list of breaks of a short paragraph that ends with its last item, and the lines.
func TestAllBreaks(t *testing.T) {
	m := made(t, styles())
	for _, c := range []struct {
		text string
		list []api.Run
	}{
		{"a  b-\u00ad c\u200b\u2060\u00ad\u2028 d-", cut(4, 0, 3, 1, 8, 2, 5, 1, 3, 0)},
		{"\u00ada \u00ad b\n", cut(3, 0, 5, 1, 1, 2)},
	} {
		k := given(t, m, c.text, c.list)
		legal := k.p.Legal()
		last := len(legal) - 1
		for chosen := range 1 << last {
			var list []int
			for n, b := range legal {
				if n == last || chosen>>n&1 == 1 {
					list = append(list, b)
				}
			}
			for _, width := range []int{1, 20, 1000} {
				k.holdsLaid(t, list, width)
			}
		}
	}
}

// P10.2: Hyphen of items made by hand: Flag and bytes, at every kind of break.
func TestHyphenNeedsBoth(t *testing.T) {
	m := made(t, styles())
	for _, c := range []struct {
		flag bool
		size int
		want bool
	}{{false, 0, false}, {false, 1, false}, {true, 0, false}, {true, 1, true}, {true, 3, true}} {
		for _, cost := range []int{-10000, 0, 50} {
			list := []api.Item{
				{Kind: api.Box, Width: 6, To: 1}, {Kind: api.Penalty, Cost: cost, Flag: c.flag, From: 1, To: 1 + c.size},
				{Kind: api.Box, Width: 6, From: 1 + c.size, To: 2 + c.size}, {Kind: api.Penalty, Cost: -10000, From: 2 + c.size, To: 2 + c.size},
			}
			p, e := measure.New(list)
			if e != api.OK {
				t.Fatal(e)
			}
			text := strings.Repeat("a", 2+c.size)
			got := lines.Lay(m, text, whole(text, 0), p, api.Breaking{Breaks: []int{1, 3}}, 20)
			if len(got) != 2 || got[0].Hyphen != c.want || got[1].Hyphen || got[0].Text != text[:1+c.size] {
				t.Errorf("Flag %v, %d bytes, Cost %d: %+v", c.flag, c.size, cost, got)
			}
		}
	}
}

// P10.2: Cuts tells the size it is given, and asks nothing of a text.
func TestCutsSize(t *testing.T) {
	k := given(t, made(t, styles()), "aa bb\n", whole("aa bb\n", 0))
	for _, size := range []int{6, 0, 99, -1, math.MaxInt, math.MinInt} {
		if got := lines.Cuts(k.p, []int{1, 4}, size); !slices.Equal(got, []int{3, size}) {
			t.Errorf("Cuts with the size %d: %v", size, got)
		}
		if got := lines.Cuts(k.p, []int{4}, size); !slices.Equal(got, []int{size}) {
			t.Errorf("Cuts of one line with the size %d: %v", size, got)
		}
	}
	if got := lines.Cuts(k.p, nil, 6); len(got) > 0 {
		t.Errorf("Cuts of no breaks: %v", got)
	}
}

// P1: Cuts and Lay end, whatever they are given.
func TestWrongBreaks(t *testing.T) {
	m := made(t, styles())
	k := given(t, m, "aa \u00adbb-c\u2028d\n", whole("aa \u00adbb-c\u2028d\n", 1))
	lists := [][]int{nil, {}, {0}, {4}, {-1}, {99}, {3, 1}, {1, 1, 1}, {-5, -4}, {math.MinInt, math.MaxInt}, {math.MaxInt, math.MinInt}, {1, 99, 2}, {99, 1}, {9, 0, 5}}
	cuts := [][]api.Run{nil, k.list, cut(1, 0), cut(99, 0), cut(-1, 0), cut(14, 31), cut(14, 32), cut(3, 0, math.MinInt, 0), cut(math.MaxInt, 0, math.MaxInt, 0)}
	paras := []*measure.Para{nil, {}, k.p}
	for _, list := range lists {
		for _, p := range paras {
			for _, size := range []int{-1, 0, 14, math.MaxInt} {
				lines.Cuts(p, list, size)
			}
			for _, runs := range cuts {
				for _, text := range []string{"", "a", k.text, "\xff\xfe", k.text + k.text, strings.Repeat("a", api.MaxText+1)} {
					lines.Lay(m, text, runs, p, api.Breaking{Breaks: list}, 20)
					lines.Lay(nil, text, runs, p, api.Breaking{Breaks: list, Total: -1}, math.MinInt)
				}
			}
		}
	}
}

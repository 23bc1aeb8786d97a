package lines_test

import (
	"math"
	"slices"
	"strings"
	"testing"

	"reglet/api"
	"reglet/lines"
	"reglet/measure"
	"reglet/metrics"
)

// The chapter's example, line by line.
func TestExample(t *testing.T) {
	m := made(t, metrics.Plain(10, 6))
	got, b, e := lines.Paragraph(m, "aa bb\n", whole("aa bb\n", 0), 20, measure.Usual())
	want := []api.Line{
		{Text: "aa ", Runs: cut(3, 0), Num: 0, Den: 1, Height: 10, Begin: true},
		{Text: "bb\n", Runs: cut(3, 0), Num: 0, Den: 1, Height: 10, End: true},
	}
	if e != api.OK || !allAlike(got, want) {
		t.Errorf("Paragraph: %+v, %d", got, e)
	}
	// Box, Glue, Box, Glue with Fill, Penalty; the first line has nothing to be stretched.
	if !slices.Equal(b.Breaks, []int{1, 4}) || !b.Emergency || b.Total == 0 {
		t.Errorf("the breaking: %v", b)
	}
}

// P10.1: each of Build's errors, each of Check's, and both at once: Build's come first. Beside an error there is nothing.
func TestParagraphErrors(t *testing.T) {
	m := made(t, styles())
	type paragraph struct {
		text string
		list []api.Run
		want api.Errno
	}
	paragraphs := []paragraph{
		{"a b\n", whole("a b\n", 0), api.OK}, {"\n", whole("\n", 1), api.OK}, {"a", whole("a", 2), api.OK}, {"a\u2028b", cut(1, 0, 4, 2), api.OK},
		{"\xff", whole("\xff", 0), api.ErrUTF8}, {"a\xc3", cut(2, 9), api.ErrUTF8}, {"\n\n\x80", nil, api.ErrUTF8},
		{"", nil, api.ErrItems}, {"", cut(0, 0), api.ErrItems}, {"", cut(0, 9), api.ErrItems}, {"a\nb", whole("a\nb", 0), api.ErrItems}, {"\n\n", whole("\n\n", 9), api.ErrItems},
		{"ab", cut(-1, 0), api.ErrItems}, {"ab", cut(3, 9), api.ErrItems}, {"ab", cut(math.MaxInt, 0), api.ErrItems}, {"ab", nil, api.ErrItems}, {"ab", cut(1, 0), api.ErrItems}, {"ab", cut(2, 0, 1, 0), api.ErrItems},
		{"ab", cut(2, 3), api.ErrStyle}, {"ab", cut(2, -1), api.ErrStyle}, {"ab", cut(2, 0, 0, 32), api.ErrStyle}, {"\u00e9", cut(1, 3, 1, 0), api.ErrStyle},
		{"\u00e9", cut(1, 0, 1, 0), api.ErrInside}, {"a\u20ac\n", cut(3, 0, 2, 0), api.ErrInside}, {"\u00e9", cut(1, 0), api.ErrInside},
	}
	for _, c := range paragraphs {
		for _, w := range wrongs() {
			want := c.want
			if want == api.OK {
				want = w.want
			}
			got, b, e := lines.Paragraph(m, c.text, c.list, w.width, w.set)
			if e != want {
				t.Errorf("Paragraph(%q, %v, %d, %v): %d, not %d", c.text, c.list, w.width, w.set, e, want)
			}
			if e != api.OK && (len(got) > 0 || !sameBreaking(b, api.Breaking{})) {
				t.Errorf("Paragraph(%q, %v, %d, %v): %v, %v beside %d", c.text, c.list, w.width, w.set, got, b, e)
			}
			if e == api.OK && (len(got) == 0 || len(b.Breaks) != len(got)) {
				t.Errorf("Paragraph(%q, %v, %d, %v): %v, %v", c.text, c.list, w.width, w.set, got, b)
			}
		}
	}
}

// asked is a width and settings, and what Check answers of them.
type asked struct {
	width int
	set   api.Settings
	want  api.Errno
}

// wrongs: widths and settings that may be, and each that may not; the width's error ahead of the settings'.
func wrongs() []asked {
	usual := measure.Usual()
	list := []asked{
		{20, usual, api.OK}, {1, usual, api.OK}, {1 << 30, usual, api.OK}, {20, api.Settings{Orphans: 1, Widows: 100}, api.OK},
		{0, usual, api.ErrWidth}, {-1, usual, api.ErrWidth}, {1<<30 + 1, usual, api.ErrWidth}, {math.MinInt, usual, api.ErrWidth}, {math.MaxInt, usual, api.ErrWidth},
		{0, api.Settings{}, api.ErrWidth}, {1<<30 + 1, tolerant(-1), api.ErrWidth}, {20, api.Settings{}, api.ErrSettings},
	}
	for _, change := range []func(s *api.Settings){
		func(s *api.Settings) { s.Tolerance = -1 }, func(s *api.Settings) { s.Tolerance = 10001 },
		func(s *api.Settings) { s.Line = -1 }, func(s *api.Settings) { s.Line = 10001 },
		func(s *api.Settings) { s.Adjacent = -1 }, func(s *api.Settings) { s.Double = 1<<20 + 1 }, func(s *api.Settings) { s.Last = math.MinInt },
		func(s *api.Settings) { s.Orphans = 0 }, func(s *api.Settings) { s.Widows = 101 },
	} {
		set := usual
		change(&set)
		list = append(list, asked{20, set, api.ErrSettings})
	}
	return list
}

// P10.1, rule 5: no table has no styles.
func TestParagraphWithoutTable(t *testing.T) {
	for _, c := range []struct {
		text string
		want api.Errno
	}{{"a", api.ErrStyle}, {"\n", api.ErrStyle}, {"", api.ErrItems}, {"\xff", api.ErrUTF8}} {
		if got, b, e := lines.Paragraph(nil, c.text, whole(c.text, 0), 20, measure.Usual()); e != c.want || len(got) > 0 || len(b.Breaks) > 0 {
			t.Errorf("Paragraph(%q) without a table: %v, %v, %d", c.text, got, b, e)
		}
	}
}

// P10.1: Build takes a text that is longer than a document may be, but there is no Para of its items: Check's error, else ErrItems.
func TestParagraphTooLong(t *testing.T) {
	m := made(t, styles())
	for _, more := range []int{0, 1, 9} {
		text := strings.Repeat("a", api.MaxText+more-1) + "\n"
		want := api.OK
		if more > 0 {
			want = api.ErrItems
		}
		got, b, e := lines.Paragraph(m, text, whole(text, 1), 20, measure.Usual())
		if e != want || (e == api.OK) != (len(got) == 1) || (e == api.OK) != (len(b.Breaks) == 1) {
			t.Errorf("Paragraph of MaxText and %d: %d lines, %v, %d", more, len(got), b, e)
		}
		if _, _, e := lines.Paragraph(m, text, whole(text, 1), 0, measure.Usual()); e != api.ErrWidth {
			t.Errorf("Paragraph of MaxText and %d, width 0: %d", more, e)
		}
	}
}

// P10.1, P10.2: paragraphs of one line: Begin and End, the glue that Fill sets, and Y.
func TestOneLine(t *testing.T) {
	m := made(t, styles())
	for _, text := range []string{"\n", "a", "a\n", "a b\n", " \n", "\u00ad\n", "\u200b", "a-b", "\u00e9 \u20ac\t\n", "-"} {
		for style, s := range styles() {
			got, b := given(t, m, text, whole(text, style)).holds(t, 1000, tolerant(200))
			want := api.Line{Text: text, Runs: whole(text, style), Den: 1, Height: s.Height, Begin: true, End: true}
			if len(got) != 1 || !alike(got[0], want) || b.Emergency {
				t.Errorf("Paragraph(%q): %+v, %v, not %+v", text, got, b, want)
			}
		}
	}
}

// P10.1: the same paragraph at several widths and tolerances, and where its lines end.
func TestSeveralWidths(t *testing.T) {
	m := made(t, styles())
	const text = "aaa bb-cc ddd\u00adee\u2028ff gg\n"
	k := given(t, m, text, whole(text, 0))
	for _, c := range []struct {
		width, tolerance int
		want             []string
	}{
		{1, 200, []string{"aaa ", "bb-", "cc ", "ddd\u00ad", "ee\u2028", "ff ", "gg\n"}},
		{30, 10000, []string{"aaa ", "bb-cc ", "ddd\u00adee\u2028", "ff gg\n"}},
		{42, 10000, []string{"aaa bb-", "cc ddd\u00ad", "ee\u2028", "ff gg\n"}},
		{1000, 0, []string{"aaa bb-cc ddd\u00adee\u2028", "ff gg\n"}},
		{1 << 30, 10000, []string{"aaa bb-cc ddd\u00adee\u2028", "ff gg\n"}},
	} {
		got, _ := k.holds(t, c.width, tolerant(c.tolerance))
		if !slices.Equal(texts(got), c.want) {
			t.Errorf("width %d, tolerance %d: %q, not %q", c.width, c.tolerance, texts(got), c.want)
		}
	}
}

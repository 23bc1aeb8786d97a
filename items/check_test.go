package items_test

import (
	"math"
	"testing"

	"reglet/api"
	"reglet/items"
	"reglet/metrics"
)

// holdsCheck asks Check, and Build, for one answer.
func holdsCheck(t *testing.T, m *metrics.Table, text string, list []api.Run, want api.Errno) {
	t.Helper()
	if e := items.Check(m, text, list); e != want {
		t.Errorf("Check(%q, %v) = %d, not %d", text, list, e, want)
	}
	got, e := items.Build(m, text, list)
	if e != want {
		t.Errorf("Build(%q, %v): %d, not %d", text, list, e, want)
	}
	if (want == api.OK) != (len(got) > 0) {
		t.Errorf("Build(%q, %v): %v beside %d", text, list, got, e)
	}
	if model := refused(m.Styles(), text, list); model != want {
		t.Errorf("the sentence says %d of %q, %v", model, text, list)
	}
}

// P7.1: texts, each in one run of a style that there is.
func TestCheckTexts(t *testing.T) {
	m := made(t, styles())
	for _, c := range []struct {
		text string
		want api.Errno
	}{
		{"a", api.OK}, {"a b", api.OK}, {"\u00e9\u20ac\U0001f600", api.OK}, {"\u2028", api.OK}, {"a\u2028b\u2028\n", api.OK}, {"a\rb", api.OK}, {"a\u010a\u0a0ab", api.OK}, {"\x00", api.OK},
		// Not right.
		{"\xff", api.ErrUTF8}, {"\x80", api.ErrUTF8}, {"a\xc3", api.ErrUTF8}, {"\xc3(", api.ErrUTF8}, {"\xc0\x8a", api.ErrUTF8}, {"\xed\xa0\x80", api.ErrUTF8}, {"\xf4\x90\x80\x80", api.ErrUTF8}, {"abc\xe2\x82\n", api.ErrUTF8},
		{"a\n\xff", api.ErrUTF8}, {"\n\n\x80", api.ErrUTF8},
		// Empty, and line ends.
		{"", api.ErrItems}, {"\n", api.OK}, {"a\n", api.OK}, {"\u00e9\n", api.OK}, {" \n", api.OK},
		{"\na", api.ErrItems}, {"a\nb", api.ErrItems}, {"\n\u20ac", api.ErrItems}, {"\n\n", api.ErrItems}, {"a\n\n", api.ErrItems}, {"a\nb\n", api.ErrItems}, {"\n\n\n", api.ErrItems}, {"\n ", api.ErrItems},
	} {
		holdsCheck(t, m, c.text, whole(c.text, 1), c.want)
	}
}

// P7.1: runs, each list for a text that is right.
func TestCheckRuns(t *testing.T) {
	m := made(t, styles())
	const text = "ab\u00e9\u20ac\U0001f600\n" // runes begin at 0, 1, 2, 4, 7, 11; 12 bytes
	for _, c := range []struct {
		list []api.Run
		want api.Errno
	}{
		{runs(12, 0), api.OK}, {runs(1, 0, 1, 1, 2, 2, 3, 0, 4, 1, 1, 2), api.OK}, {runs(2, 1, 2, 1, 8, 1), api.OK},
		// Empty runs, at each place; their styles count.
		{runs(0, 0, 12, 0), api.OK}, {runs(2, 0, 0, 1, 0, 2, 10, 0), api.OK}, {runs(12, 0, 0, 0), api.OK},
		{runs(0, 3, 12, 0), api.ErrStyle}, {runs(2, 0, 0, -1, 10, 0), api.ErrStyle}, {runs(12, 0, 0, 3), api.ErrStyle},
		// Below 0, and more than is left.
		{runs(-1, 0), api.ErrItems}, {runs(math.MinInt, 0), api.ErrItems}, {runs(12, 0, -1, 0), api.ErrItems}, {runs(4, 0, -2, 0, 10, 0), api.ErrItems}, {runs(-1, 0, 13, 0), api.ErrItems},
		{runs(13, 0), api.ErrItems}, {runs(math.MaxInt, 0), api.ErrItems}, {runs(12, 0, 1, 0), api.ErrItems}, {runs(4, 0, 9, 0), api.ErrItems}, {runs(4, 0, math.MaxInt, 0), api.ErrItems},
		{runs(4, 0, 9, 0, -1, 0), api.ErrItems},
		// Styles that there are none of.
		{runs(12, 3), api.ErrStyle}, {runs(12, -1), api.ErrStyle}, {runs(12, 31), api.ErrStyle}, {runs(12, math.MinInt), api.ErrStyle}, {runs(12, math.MaxInt), api.ErrStyle}, {runs(4, 2, 8, 3), api.ErrStyle},
		// Within a rune of two, three and four bytes.
		{runs(3, 0, 9, 0), api.ErrInside}, {runs(5, 0, 7, 0), api.ErrInside}, {runs(6, 0, 6, 0), api.ErrInside}, {runs(4, 0, 4, 0, 4, 0), api.ErrInside}, {runs(9, 0, 3, 0), api.ErrInside}, {runs(10, 0, 2, 0), api.ErrInside},
		// Fewer bytes than the text.
		{nil, api.ErrItems}, {[]api.Run{}, api.ErrItems}, {runs(0, 0), api.ErrItems}, {runs(0, 0, 0, 1), api.ErrItems}, {runs(11, 0), api.ErrItems}, {runs(4, 0, 7, 1), api.ErrItems},
		// The order of the errors: within a run, from run to run, and the sum at last.
		{runs(13, 3), api.ErrItems}, {runs(-1, 3), api.ErrItems}, {runs(3, 3, 9, 0), api.ErrStyle},
		{runs(3, 0, -1, 0), api.ErrInside}, {runs(3, 0, 9, 3), api.ErrInside}, {runs(2, 3, -1, 0), api.ErrStyle}, {runs(2, 3, 99, 0), api.ErrStyle}, {runs(2, 3, 1, 0), api.ErrStyle},
		{runs(2, 0, 99, 0, 1, 3), api.ErrItems}, {runs(2, 3), api.ErrStyle}, {runs(3, 0), api.ErrInside},
	} {
		holdsCheck(t, m, text, c.list, c.want)
	}
}

// P7.1: the text's faults come ahead of the runs'.
func TestCheckOrder(t *testing.T) {
	m := made(t, styles())
	for _, list := range [][]api.Run{nil, {}, runs(0, 0), runs(0, 3), runs(-1, 3), runs(99, 3), runs(1, 3), runs(1, 0), runs(1, 0, 1, 3), runs(2, 0, 0, 3), runs(3, 0)} {
		for _, text := range []string{"\xff", "\xc3", "\n\xff", "\n\n\xc3", "a\xff\n"} {
			holdsCheck(t, m, text, list, api.ErrUTF8)
		}
		for _, text := range []string{"", "\n\n", "\na", "a\nb", "\n\u00e9", "\u00e9\n\n"} {
			holdsCheck(t, m, text, list, api.ErrItems)
		}
	}
	// A run that ends within a rune whose bytes have the style of none: the style is asked first.
	holdsCheck(t, m, "\u00e9", runs(1, 3, 1, 0), api.ErrStyle)
	holdsCheck(t, m, "\u00e9", runs(1, 0, 1, 3), api.ErrInside)
}

// P7.1: how many styles the table has, from one to as many as there may be.
func TestCheckStyles(t *testing.T) {
	for _, many := range []int{1, 2, 31, 32} {
		list := make([]api.Style, many)
		for k := range list {
			list[k] = styles()[0]
		}
		m := made(t, list)
		for style := -2; style < 35; style++ {
			want := api.OK
			if style < 0 || style >= many {
				want = api.ErrStyle
			}
			holdsCheck(t, m, "ab", runs(1, 0, 1, style), want)
			holdsCheck(t, m, "ab", runs(2, style), want)
		}
	}
}

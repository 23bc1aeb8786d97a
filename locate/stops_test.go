package locate_test

import (
	"slices"
	"strings"
	"testing"

	"reglet/api"
	"reglet/locate"
	"reglet/metrics"
	"reglet/scaled"
)

// stopsOf: of pairs of numbers, how many bytes are ahead, and X.
func stopsOf(pairs ...int) []locate.Stop {
	var list []locate.Stop
	for pair := range slices.Chunk(pairs, 2) {
		list = append(list, locate.Stop{At: pair[0], X: pair[1]})
	}
	return list
}

// The chapter's example.
func TestExample(t *testing.T) {
	m, _, _ := metrics.New(metrics.Plain(10, 6))
	got := locate.Stops(m, api.Line{Text: "ab ", Runs: cut(3, 0)})
	if !slices.Equal(got, stopsOf(0, 0, 1, 6, 2, 12, 3, 12)) {
		t.Errorf("Stops: %v", got)
	}
}

// wantStops holds the Stops of a line against numbers written out, and against the chapter's words.
func wantStops(t *testing.T, m *metrics.Table, l api.Line, want ...int) {
	t.Helper()
	if got := locate.Stops(m, l); !slices.Equal(got, stopsOf(want...)) {
		t.Errorf("Stops(%+v): %v, not %v", l, got, want)
	}
	holdsLine(t, m, l)
}

// P15.2: each kind of rune, of one byte up to four, in the style 0 (Space 6, others 7).
func TestStopsOfKinds(t *testing.T) {
	m := table(t)
	tests := []struct {
		text string
		want []int
	}{
		{"", []int{0, 0}}, // no runes: one place
		{"a", []int{0, 0, 1, 7}},
		{"abc", []int{0, 0, 1, 7, 2, 14, 3, 21}},
		{"\u00e9\u20ac\U0001f600b", []int{0, 0, 2, 7, 5, 14, 9, 21, 10, 28}},
		{"\x00\r\ufffd", []int{0, 0, 1, 7, 2, 14, 5, 21}},
		{"-\u2010", []int{0, 0, 1, 7, 4, 14}},
		{"\u00a0\u202fa", []int{0, 0, 2, 6, 5, 12, 6, 19}},
		{"a b", []int{0, 0, 1, 7, 2, 13, 3, 20}},
		{"a\tb", []int{0, 0, 1, 7, 2, 13, 3, 20}},
		// Without width, wherever they stand.
		{"a\u00adb", []int{0, 0, 1, 7, 3, 7, 4, 14}},
		{"a\u200bb", []int{0, 0, 1, 7, 4, 7, 5, 14}},
		{"a\u2060b", []int{0, 0, 1, 7, 4, 7, 5, 14}},
		{"a\ufeffb", []int{0, 0, 1, 7, 4, 7, 5, 14}},
		{"a\u2028b", []int{0, 0, 1, 7, 4, 7, 5, 14}},
		{"a\nb", []int{0, 0, 1, 7, 2, 7, 3, 14}},
		{"\u00ad\u200b\u2060\ufeff\u2028\n", []int{0, 0, 2, 0, 5, 0, 8, 0, 11, 0, 14, 0, 15, 0}},
	}
	for _, test := range tests {
		l := api.Line{Text: test.text, Runs: cut(len(test.text), small)}
		wantStops(t, m, l, test.want...)
		// How a line's glue is set, and what else it has, is nothing to lines without spaces.
		if !strings.ContainsAny(test.text, " \t") {
			l.Num, l.Den, l.Height, l.Y, l.Hyphen, l.Begin, l.End = 2, 3, 99, 98, true, true, true
			wantStops(t, m, l, test.want...)
		}
	}
}

// P15.2: spaces ahead of, between and behind what is seen, and alone.
func TestStopsOfSpaces(t *testing.T) {
	m := table(t)
	tests := []struct {
		text string
		want []int
	}{
		{" a", []int{0, 0, 1, 6, 2, 13}},
		{" \t a", []int{0, 0, 1, 6, 2, 12, 3, 18, 4, 25}},
		{"a  b", []int{0, 0, 1, 7, 2, 13, 3, 19, 4, 26}},
		{"a ", []int{0, 0, 1, 7, 2, 7}},
		{"a \t ", []int{0, 0, 1, 7, 2, 7, 3, 7, 4, 7}},
		{" a b ", []int{0, 0, 1, 6, 2, 13, 3, 19, 4, 26, 5, 26}},
		// Alone: nothing is seen.
		{" ", []int{0, 0, 1, 0}},
		{"\t", []int{0, 0, 1, 0}},
		{" \t ", []int{0, 0, 1, 0, 2, 0, 3, 0}},
		// What isn't seen behind them doesn't count, of whatever kind.
		{"a \n", []int{0, 0, 1, 7, 2, 7, 3, 7}},
		{"a \u2028", []int{0, 0, 1, 7, 2, 7, 5, 7}},
		{"a \u00ad", []int{0, 0, 1, 7, 2, 7, 4, 7}},
		{"a \u200b \u2060\t\ufeff \n", []int{0, 0, 1, 7, 2, 7, 5, 7, 6, 7, 9, 7, 10, 7, 13, 7, 14, 7, 15, 7}},
		{" \n", []int{0, 0, 1, 0, 2, 0}},
		// What is seen behind them does, of each kind that is.
		{" b", []int{0, 0, 1, 6, 2, 13}},
		{" -", []int{0, 0, 1, 6, 2, 13}},
		{" \u2010", []int{0, 0, 1, 6, 4, 13}},
		{" \u00a0", []int{0, 0, 1, 6, 3, 12}},
		{" \u202f", []int{0, 0, 1, 6, 4, 12}},
		{" \n a", []int{0, 0, 1, 6, 2, 6, 3, 12, 4, 19}},
		{" \u00ad\u00a0 ", []int{0, 0, 1, 6, 3, 6, 5, 12, 6, 12}},
	}
	for _, test := range tests {
		wantStops(t, m, api.Line{Text: test.text, Runs: cut(len(test.text), small)}, test.want...)
		// A hyphen at the line's end is no rune of it: nothing is seen behind spaces for it.
		wantStops(t, m, api.Line{Text: test.text, Runs: cut(len(test.text), small), Hyphen: true}, test.want...)
	}
}

// P15.2: glue that is stretched, shrunk and neither; Space 6, Stretch 3, Shrink 2.
func TestStopsOfGlue(t *testing.T) {
	m := table(t)
	tests := []struct{ num, den, space int }{
		{0, 1, 6}, {0, 0, 6}, {0, -1, 6}, {0, 7, 6},
		{1, 1, 9}, {1, 2, 7}, {2, 3, 8}, {1, 3, 7}, {1, 4, 6}, {7, 2, 16}, {100, 1, 306},
		{-1, 1, 4}, {-1, 2, 5}, {-2, 3, 4}, {-1, 3, 5}, {-1, 4, 5}, {-1, 1000, 5}, {-3, 1, 0}, {-5, 1, -4},
		// A Den that isn't above 0 sets nothing.
		{1, 0, 6}, {-1, 0, 6}, {1, -1, 6}, {-1, -1, 6}, {5, minInt, 6}, {-5, minInt, 6}, {maxInt, 0, 6}, {minInt, 0, 6},
		// As great as numbers are.
		{maxInt, maxInt, 9}, {minInt, maxInt, 4}, {1, maxInt, 6}, {-1, maxInt, 5}, {1 << 59, 1 << 60, 7}, {maxInt, 1 << 61, 9},
	}
	for _, test := range tests {
		l := api.Line{Text: "a b\u00a0c ", Runs: cut(7, small), Num: test.num, Den: test.den}
		s := test.space
		// The space that isn't broken at is as wide as ever, and the one at the end has no width.
		wantStops(t, m, l, 0, 0, 1, 7, 2, 7+s, 3, 14+s, 5, 20+s, 6, 27+s, 7, 27+s)
		l = api.Line{Text: " \t ", Runs: cut(3, small), Num: test.num, Den: test.den}
		wantStops(t, m, l, 0, 0, 1, 0, 2, 0, 3, 0)
	}
}

// P15.2: each style's own glue, letters and ranges.
func TestStopsOfStyles(t *testing.T) {
	m := table(t)
	tests := []struct {
		l    api.Line
		want []int
	}{
		{api.Line{Text: "aa", Runs: cut(1, small, 1, wide)}, []int{0, 0, 1, 7, 2, 17}},
		{api.Line{Text: "aa", Runs: cut(1, wide, 1, small)}, []int{0, 0, 1, 10, 2, 17}},
		{api.Line{Text: "aijlm", Runs: cut(5, ranged)}, []int{0, 0, 1, 15, 2, 18, 3, 21, 4, 24, 5, 39}},
		{api.Line{Text: "i\u00e9i", Runs: cut(4, ranged)}, []int{0, 0, 1, 3, 3, 3, 4, 6}},
		{api.Line{Text: "a a a a", Runs: cut(2, small, 2, wide, 3, ranged)}, []int{0, 0, 1, 7, 2, 13, 3, 23, 4, 31, 5, 46, 6, 66, 7, 81}},
		{api.Line{Text: "a a a a", Runs: cut(2, small, 2, wide, 3, ranged), Num: 1, Den: 2}, []int{0, 0, 1, 7, 2, 14, 3, 24, 4, 34, 5, 49, 6, 74, 7, 89}},
		{api.Line{Text: "a a a a", Runs: cut(2, small, 2, wide, 3, ranged), Num: -1, Den: 2}, []int{0, 0, 1, 7, 2, 12, 3, 22, 4, 28, 5, 43, 6, 56, 7, 71}},
		// A style is that of the rune's first byte.
		{api.Line{Text: "\u20ac\u20aca", Runs: cut(2, small, 4, wide, 1, small)}, []int{0, 0, 3, 7, 6, 17, 7, 24}},
		{api.Line{Text: "\u00e9\u00e9", Runs: cut(1, small, 1, wide, 1, wide, 1, small)}, []int{0, 0, 2, 7, 4, 17}},
		{api.Line{Text: "\U0001f600a", Runs: cut(1, wide, 1, small, 1, small, 1, small, 1, wide)}, []int{0, 0, 4, 10, 5, 20}},
		// A letter without width is seen.
		{api.Line{Text: " \u00e9 ", Runs: cut(4, ranged)}, []int{0, 0, 1, 20, 3, 20, 4, 20}},
		{api.Line{Text: " a", Runs: cut(1, small, 1, none)}, []int{0, 0, 1, 6, 2, 6}},
		// Styles that the table doesn't have: nothing is wide.
		{api.Line{Text: "a b\u00a0-c", Runs: cut(7, none), Num: 1, Den: 1}, []int{0, 0, 1, 0, 2, 0, 3, 0, 5, 0, 6, 0, 7, 0}},
		{api.Line{Text: "a bc", Runs: cut(1, small, 2, -1, 1, small), Num: 1, Den: 1}, []int{0, 0, 1, 7, 2, 7, 3, 7, 4, 14}},
		{api.Line{Text: "abc", Runs: cut(1, maxInt, 1, minInt, 1, 4)}, []int{0, 0, 1, 0, 2, 0, 3, 0}},
	}
	for _, test := range tests {
		wantStops(t, m, test.l, test.want...)
	}
}

// P15.2: runs that don't count, that have fewer bytes than the text, more, or none.
func TestStopsOfRuns(t *testing.T) {
	m := table(t)
	tests := []struct {
		list []api.Run
		want []int // of "aaa"
	}{
		{nil, []int{0, 0, 1, 7, 2, 14, 3, 21}},
		{cut(), []int{0, 0, 1, 7, 2, 14, 3, 21}},
		{cut(1, wide), []int{0, 0, 1, 10, 2, 17, 3, 24}},
		{cut(2, wide), []int{0, 0, 1, 10, 2, 20, 3, 27}},
		{cut(1, ranged, 1, wide), []int{0, 0, 1, 15, 2, 25, 3, 32}},
		{cut(3, wide), []int{0, 0, 1, 10, 2, 20, 3, 30}},
		{cut(4, wide), []int{0, 0, 1, 10, 2, 20, 3, 30}},
		{cut(2, wide, 9, ranged, 9, small), []int{0, 0, 1, 10, 2, 20, 3, 35}},
		// Empty ones ahead, between and behind.
		{cut(0, ranged), []int{0, 0, 1, 7, 2, 14, 3, 21}},
		{cut(-3, ranged), []int{0, 0, 1, 7, 2, 14, 3, 21}},
		{cut(0, ranged, 3, wide), []int{0, 0, 1, 10, 2, 20, 3, 30}},
		{cut(-1, ranged, 1, wide, 0, ranged, -2, ranged, 1, small, minInt, ranged, 1, wide, -1, ranged), []int{0, 0, 1, 10, 2, 17, 3, 27}},
		{cut(1, wide, -1, small, 1, ranged), []int{0, 0, 1, 10, 2, 25, 3, 32}},
		{cut(2, wide, 0, ranged), []int{0, 0, 1, 10, 2, 20, 3, 27}},
		{cut(minInt, ranged, minInt, ranged, 2, wide), []int{0, 0, 1, 10, 2, 20, 3, 27}},
		// As long as numbers are.
		{cut(maxInt, wide), []int{0, 0, 1, 10, 2, 20, 3, 30}},
		{cut(1, wide, maxInt, ranged, maxInt, small), []int{0, 0, 1, 10, 2, 25, 3, 40}},
		{cut(2, wide, maxInt-1, ranged, 2, small), []int{0, 0, 1, 10, 2, 20, 3, 35}},
	}
	for _, test := range tests {
		wantStops(t, m, api.Line{Text: "aaa", Runs: test.list}, test.want...)
	}
}

// P15.2: widths that are together beyond what scaled.Add tells.
func TestStopsBeyondMost(t *testing.T) {
	m := table(t)
	const most = scaled.Most
	tests := []struct {
		l    api.Line
		want []int
	}{
		{api.Line{Text: "   a", Runs: cut(4, greatest), Num: 1 << 39, Den: 1}, []int{0, 0, 1, most/2 + great, 2, most, 3, most, 4, most}},
		{api.Line{Text: "  a", Runs: cut(3, greatest), Num: maxInt, Den: 1}, []int{0, 0, 1, most, 2, most, 3, most}},
		{api.Line{Text: "a  a", Runs: cut(4, greatest), Num: minInt, Den: 1}, []int{0, 0, 1, great, 2, 2*great - most, 3, -most, 4, great - most}},
		{api.Line{Text: "   a", Runs: cut(4, greatest), Num: -1 << 39, Den: 1}, []int{0, 0, 1, great - most/2, 2, 2*great - most, 3, -most, 4, great - most}},
		// Behind Most there is no more, whatever the styles are.
		{api.Line{Text: "  a  a", Runs: cut(1, greatest, 1, small, 1, small, 3, wide), Num: maxInt, Den: 1}, []int{0, 0, 1, most, 2, most, 3, most, 4, most, 5, most, 6, most}},
	}
	for _, test := range tests {
		wantStops(t, m, test.l, test.want...)
	}
}

// P15.4: Width with a hyphen and without, by the last run that isn't empty.
func TestWidth(t *testing.T) {
	m := table(t)
	tests := []struct {
		l               api.Line
		bare, hyphenate int
	}{
		{api.Line{}, 0, 4},
		{api.Line{Text: "ab", Runs: cut(2, small)}, 14, 18},
		{api.Line{Text: "ab ", Runs: cut(3, small)}, 14, 18},
		{api.Line{Text: "a b ", Runs: cut(4, small), Num: 1, Den: 3}, 21, 25},
		{api.Line{Text: "a b ", Runs: cut(4, small), Num: -1, Den: 1}, 18, 22},
		{api.Line{Text: " \n", Runs: cut(2, wide)}, 0, 9},
		{api.Line{Text: "ab\u00ad", Runs: cut(4, wide)}, 20, 29},
		{api.Line{Text: "ab", Runs: cut(1, small, 1, wide)}, 17, 26},
		{api.Line{Text: "ab", Runs: cut(1, wide, 1, small)}, 17, 21},
		{api.Line{Text: "ab", Runs: cut(1, wide, 1, ranged)}, 25, 39},
		// The style of the last run, though it has bytes beyond the text, or fewer.
		{api.Line{Text: "ab", Runs: cut(2, small, 1, wide)}, 14, 23},
		{api.Line{Text: "ab", Runs: cut(9, wide, 9, ranged)}, 20, 34},
		{api.Line{Text: "ab", Runs: cut(1, wide)}, 17, 26},
		{api.Line{Runs: cut(1, wide)}, 0, 9},
		// Empty runs at the end don't count; if all are, it is the style 0.
		{api.Line{Text: "ab", Runs: cut(2, wide, 0, ranged)}, 20, 29},
		{api.Line{Text: "ab", Runs: cut(2, wide, -1, ranged, 0, small, minInt, ranged)}, 20, 29},
		{api.Line{Text: "ab", Runs: cut(0, ranged, 2, wide)}, 20, 29},
		{api.Line{Text: "ab"}, 14, 18},
		{api.Line{Text: "ab", Runs: cut(0, wide)}, 14, 18},
		{api.Line{Text: "ab", Runs: cut(0, wide, -5, ranged)}, 14, 18},
		// A style that the table doesn't have.
		{api.Line{Text: "ab", Runs: cut(2, none)}, 0, 0},
		{api.Line{Text: "ab", Runs: cut(1, wide, 1, -1)}, 10, 10},
		// As wide as numbers are.
		{api.Line{Text: " a", Runs: cut(2, greatest), Num: maxInt, Den: 1}, scaled.Most, scaled.Most},
		{api.Line{Text: " a", Runs: cut(2, greatest), Num: minInt, Den: 1}, 2*great - scaled.Most, 3*great - scaled.Most},
	}
	for _, test := range tests {
		l := test.l
		if got := locate.Width(m, l); got != test.bare {
			t.Errorf("Width(%+v): %d, not %d", l, got, test.bare)
		}
		holdsLine(t, m, l)
		l.Hyphen = true
		if got := locate.Width(m, l); got != test.hyphenate {
			t.Errorf("Width(%+v): %d, not %d", l, got, test.hyphenate)
		}
		holdsLine(t, m, l)
	}
}

// alphabet: a rune of each kind that there is, and one of each number of bytes.
func alphabet() []rune {
	return []rune{'a', 'i', 0xE9, 0x20AC, 0x1F600, ' ', '\t', 0xA0, 0x202F, 0xAD, 0x200B, 0x2060, 0xFEFF, '-', 0x2010, 0x2028, '\n'}
}

// P15.2 to P15.4: every line of up to three runes, in two styles, its glue set in each way, hit everywhere.
func TestShortLines(t *testing.T) {
	m := table(t)
	texts := []string{""}
	for from, n := 0, 0; n < 3; n++ {
		to := len(texts)
		for _, ahead := range texts[from:to] {
			for _, r := range alphabet() {
				texts = append(texts, ahead+string(r))
			}
		}
		from = to
	}
	for k, text := range texts {
		for _, num := range []int{-1, 0, 1} {
			l := api.Line{Text: text, Runs: cut(2, ranged, len(text), wide), Num: num, Den: 2, Hyphen: k%2 == 0}
			stops := holdsLine(t, m, l)
			list := []api.Page{{Lines: []api.Line{l}}}
			for _, s := range stops {
				holdsHit(t, m, list, api.Spot{X: s.X - 1})
				holdsHit(t, m, list, api.Spot{X: s.X})
			}
			for at := range len(text) + 1 {
				holdsPlace(t, m, list, at)
			}
		}
	}
}

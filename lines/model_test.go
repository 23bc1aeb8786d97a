package lines_test

import (
	"math/rand/v2"
	"slices"
	"strings"
	"testing"
	"unicode/utf8"

	"reglet/api"
	"reglet/breaks"
	"reglet/items"
	"reglet/lines"
	"reglet/measure"
	"reglet/metrics"
	"reglet/runs"
)

// styles: such as have no two heights alike, and letters of 6, of 8 and of 10.
func styles() []api.Style {
	return []api.Style{
		{Height: 12, Space: 6, Stretch: 3, Shrink: 2, Hyphen: 4, Other: 6},
		{Height: 30, Space: 8, Stretch: 5, Shrink: 4, Hyphen: 7, Other: 8, Keep: true},
		{Height: 7, Space: 10, Stretch: 9, Shrink: 1, Hyphen: 10, Other: 10, Ranges: []api.Range{{Lo: 'i', Hi: 'l', Width: 3}}},
	}
}

// made: a table of styles that have no fault.
func made(t testing.TB, list []api.Style) *metrics.Table {
	t.Helper()
	m, e, at := metrics.New(list)
	if e != api.OK {
		t.Fatalf("New: %d at %d", e, at)
	}
	return m
}

// cut: runs of pairs of numbers, how many bytes and which style.
func cut(pairs ...int) []api.Run {
	list := []api.Run{}
	for pair := range slices.Chunk(pairs, 2) {
		list = append(list, api.Run{Len: pair[0], Style: pair[1]})
	}
	return list
}

// whole: one run of all of a text.
func whole(text string, style int) []api.Run { return cut(len(text), style) }

// tolerant: the usual settings with another tolerance.
func tolerant(tolerance int) api.Settings {
	set := measure.Usual()
	set.Tolerance = tolerance
	return set
}

// task is a paragraph in styles, with its items.
type task struct {
	m    *metrics.Table
	text string
	list []api.Run
	p    *measure.Para
}

// given: a paragraph that has no fault.
func given(t testing.TB, m *metrics.Table, text string, list []api.Run) task {
	t.Helper()
	x, e := items.Build(m, text, list)
	if e != api.OK {
		t.Fatalf("Build(%q, %v): %d", text, list, e)
	}
	p, e := measure.New(x)
	if e != api.OK {
		t.Fatalf("New of %q: %d", text, e)
	}
	return task{m, text, list, p}
}

// byByte: the style of each byte.
func byByte(list []api.Run) []int {
	var all []int
	for _, run := range list {
		all = append(all, slices.Repeat([]int{run.Style}, max(run.Len, 0))...)
	}
	return all
}

// joined: bytes' styles as runs, none empty, no two in a row of one style.
func joined(of []int) []api.Run {
	var list []api.Run
	for k, style := range of {
		if k > 0 && of[k-1] == style {
			list[len(list)-1].Len++
			continue
		}
		list = append(list, api.Run{Len: 1, Style: style})
	}
	return list
}

// begins: where the bytes of the first item of a line begin, that goes from behind a break up to another one. It is P10.2's sentence, by going from item to item.
func (k task) begins(a, b int) int {
	first := a + 1
	for first < b {
		x := k.p.Item(first)
		if x.Kind == 1 || x.Kind == 2 && x.Fill || x.Kind == 3 && x.Cost <= -10000 {
			break
		}
		first++
	}
	return k.p.Item(first).From
}

// cuts is P10.2's sentence: where the lines of such breaks end.
func (k task) cuts(list []int) []int {
	var all []int
	for n := range list {
		if n == len(list)-1 {
			all = append(all, len(k.text))
			continue
		}
		all = append(all, k.begins(list[n], list[n+1]))
	}
	return all
}

// laid is P10.2's sentence: the lines of such breaks.
func (k task) laid(list []int, width int) []api.Line {
	of := byByte(k.list)
	known := styles()
	var all []api.Line
	from, ahead := 0, -1
	for n, to := range k.cuts(list) {
		x := k.p.Item(list[n])
		fit := k.p.Fit(ahead, list[n], width)
		l := api.Line{Text: k.text[from:to], Runs: joined(of[from:to]), Num: fit.Num, Den: fit.Den}
		for _, style := range of[from:to] {
			l.Height = max(l.Height, known[style].Height)
		}
		if from == to {
			l.Height = known[of[len(of)-1]].Height
		}
		l.Hyphen = x.Flag && x.To-x.From > 0
		l.Begin = n == 0
		l.End = n+1 == len(list)
		all = append(all, l)
		from, ahead = to, list[n]
	}
	return all
}

// alike: have two lines the same in every field, their runs one by one?
func alike(a, b api.Line) bool {
	return a.Text == b.Text && slices.Equal(a.Runs, b.Runs) && a.Num == b.Num && a.Den == b.Den &&
		a.Height == b.Height && a.Hyphen == b.Hyphen && a.Y == b.Y && a.Begin == b.Begin && a.End == b.End
}

// allAlike: are two lists of lines alike, line by line?
func allAlike(a, b []api.Line) bool { return slices.EqualFunc(a, b, alike) }

// sameBreaking: are two breakings the same?
func sameBreaking(a, b api.Breaking) bool {
	return slices.Equal(a.Breaks, b.Breaks) && a.Total == b.Total && a.Emergency == b.Emergency
}

// holdsLaid asks Cuts and Lay for what the sentence says of such breaks.
func (k task) holdsLaid(t testing.TB, list []int, width int) []api.Line {
	t.Helper()
	want := k.cuts(list)
	if got := lines.Cuts(k.p, list, len(k.text)); !slices.Equal(got, want) {
		t.Fatalf("Cuts of %q, %v: %v, not %v", k.text, list, got, want)
	}
	model := k.laid(list, width)
	got := lines.Lay(k.m, k.text, k.list, k.p, api.Breaking{Breaks: list}, width)
	if !allAlike(got, model) {
		t.Fatalf("Lay of %q, %v, %v, %d:\n%+v, not\n%+v", k.text, k.list, list, width, got, model)
	}
	k.holdsWhole(t, got)
	return got
}

// holdsWhole is P10.4: the lines' bytes are the paragraph's, and so are their runs, of which none is empty, and no two in a row have one style.
func (k task) holdsWhole(t testing.TB, list []api.Line) {
	t.Helper()
	text := ""
	var of []api.Run
	for _, l := range list {
		size := 0
		for n, run := range l.Runs {
			if run.Len <= 0 || n > 0 && l.Runs[n-1].Style == run.Style {
				t.Fatalf("the runs of %q in %q are %v", l.Text, k.text, l.Runs)
			}
			size += run.Len
		}
		if size != len(l.Text) || l.Y != 0 {
			t.Fatalf("the line %+v of %q", l, k.text)
		}
		text += l.Text
		of = append(of, l.Runs...)
	}
	if text != k.text || lines.Text(list) != k.text {
		t.Fatalf("the lines of %q have the bytes %q, and Text tells %q", k.text, text, lines.Text(list))
	}
	if !runs.Same(of, k.list) || !slices.Equal(byByte(of), byByte(k.list)) {
		t.Fatalf("the lines of %q have the runs %v, not %v", k.text, of, k.list)
	}
}

// holds asks Paragraph for the lines of the breaking that Break tells.
func (k task) holds(t testing.TB, width int, set api.Settings) ([]api.Line, api.Breaking) {
	t.Helper()
	want, e := breaks.Break(k.p, width, set)
	if e != api.OK {
		t.Fatalf("Break of %q: %d", k.text, e)
	}
	got, b, e := lines.Paragraph(k.m, k.text, k.list, width, set)
	if e != api.OK || !sameBreaking(b, want) {
		t.Fatalf("Paragraph(%q, %v, %d): the breaking %v, %d, not %v", k.text, k.list, width, b, e, want)
	}
	if model := k.holdsLaid(t, b.Breaks, width); !allAlike(got, model) {
		t.Fatalf("Paragraph(%q, %v, %d):\n%+v, not\n%+v", k.text, k.list, width, got, model)
	}
	return got, b
}

// texts: the bytes of each line.
func texts(list []api.Line) []string {
	var all []string
	for _, l := range list {
		all = append(all, l.Text)
	}
	return all
}

// kinds: a rune of every kind that may stand within a paragraph, of one byte to four.
func kinds() []rune {
	return []rune{'a', 'i', 0xE9, 0x20AC, 0x1F600, ' ', ' ', '\t', 0xA0, 0x202F, 0xAD, 0x200B, 0x2060, 0xFEFF, '-', 0x2010, 0x2028, 0xFFFD}
}

// drawnText: a right text of at most so many runes, not empty, with a line end at its end or without.
func drawnText(from *rand.Rand, most int) string {
	var s strings.Builder
	for range from.IntN(most) {
		if from.IntN(2) == 0 {
			s.WriteString("a")
			continue
		}
		s.WriteRune(kinds()[from.IntN(len(kinds()))])
	}
	if from.IntN(2) == 0 || s.Len() == 0 {
		s.WriteString("\n")
	}
	return s.String()
}

// drawnRuns: runs of a text's bytes that end between runes, empty ones and such as have the style ahead among them.
func drawnRuns(from *rand.Rand, text string, many int) []api.Run {
	var list []api.Run
	for left := text; left != ""; {
		n := from.IntN(min(len(left), 9) + 1)
		for n < len(left) && !utf8.RuneStart(left[n]) {
			n++
		}
		list = append(list, api.Run{Len: n, Style: from.IntN(many)})
		left = left[n:]
	}
	return list
}

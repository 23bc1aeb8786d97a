package locate_test

import (
	"math/rand/v2"
	"strings"
	"testing"
	"unicode/utf8"

	"reglet/api"
	"reglet/lines"
	"reglet/locate"
	"reglet/measure"
	"reglet/metrics"
	"reglet/pages"
	"reglet/scaled"
)

// pick: one of these numbers.
func pick(from *rand.Rand, list ...int) int { return list[from.IntN(len(list))] }

// drawnText: a right text of at most so many runes of all kinds, half of them letters and spaces.
func drawnText(from *rand.Rand, most int) string {
	var s strings.Builder
	for range from.IntN(most + 1) {
		switch from.IntN(4) {
		case 0:
			s.WriteByte('a')
		case 1:
			s.WriteByte(' ')
		default:
			s.WriteRune(alphabet()[from.IntN(len(alphabet()))])
		}
	}
	return s.String()
}

// drawnRuns: runs of some bytes, wherever runes are, with fewer bytes or more than that, with empty ones, and with styles that there aren't.
func drawnRuns(from *rand.Rand, many int) []api.Run {
	var list []api.Run
	for range from.IntN(6) {
		size := from.IntN(many/2+3) - 1
		if from.IntN(30) == 0 {
			size = pick(from, minInt, maxInt, maxInt-1)
		}
		list = append(list, api.Run{Len: size, Style: from.IntN(6) - 1})
	}
	return list
}

// drawnLine: of any text and runs, its glue set in any way.
func drawnLine(from *rand.Rand) api.Line {
	text := drawnText(from, 12)
	if from.IntN(5) == 0 {
		text = ""
	}
	return api.Line{
		Text:   text,
		Runs:   drawnRuns(from, len(text)),
		Num:    pick(from, 0, 1, 1, 2, 3, 7, -1, -1, -2, -3, -9, 1<<39, -1<<39, minInt, maxInt),
		Den:    pick(from, 1, 1, 2, 3, 7, 10, 0, -1, 1<<20, minInt, maxInt),
		Height: from.IntN(20),
		Hyphen: from.IntN(3) == 0,
		Y:      from.IntN(60) - 5,
	}
}

// drawnBook: pages of such lines, some without any.
func drawnBook(from *rand.Rand) []api.Page {
	var list []api.Page
	for range from.IntN(5) {
		var p api.Page
		for range from.IntN(5) {
			p.Lines = append(p.Lines, drawnLine(from))
		}
		list = append(list, p)
	}
	return list
}

// P15.2, P15.4: drawn lines. Counted is how many there were of each kind, so that none is left out.
func TestDrawnLines(t *testing.T) {
	m := table(t)
	from := rand.New(rand.NewPCG(15, 1))
	stretched, shrunk, clamped, hyphened, trailing := 0, 0, 0, 0, 0
	for range 40000 {
		l := drawnLine(from)
		stops := holdsLine(t, m, l)
		stretched += count(l.Num > 0 && l.Den > 0 && strings.Contains(l.Text, " a"))
		shrunk += count(l.Num < 0 && l.Den > 0 && strings.Contains(l.Text, " a"))
		x := stops[len(stops)-1].X
		clamped += count(x == scaled.Most || x < -scaled.Most/2)
		hyphened += count(l.Hyphen)
		trailing += count(strings.HasSuffix(l.Text, " "))
	}
	if min(stretched, shrunk, clamped, hyphened, trailing) < 1000 {
		t.Errorf("%d lines stretched, %d shrunk, %d as wide as numbers are, %d with a hyphen, %d with spaces behind", stretched, shrunk, clamped, hyphened, trailing)
	}
}

// count: 1, if something holds.
func count(holds bool) int {
	if holds {
		return 1
	}
	return 0
}

// P15.1, P15.3, P15.4, P15.5: drawn pages, all their places, and spots anywhere.
func TestDrawnBooks(t *testing.T) {
	m := table(t)
	from := rand.New(rand.NewPCG(15, 2))
	bare, empty, full := 0, 0, 0
	for range 4000 {
		list := drawnBook(from)
		holdsBook(t, m, list)
		for range 20 {
			s := api.Spot{Page: from.IntN(8) - 2, Line: from.IntN(8) - 2, X: from.IntN(80) - 10}
			if from.IntN(10) == 0 {
				s.X = pick(from, minInt, maxInt, scaled.Most, -scaled.Most, scaled.Most-1)
			}
			holdsHit(t, m, list, s)
		}
		for _, p := range list {
			for y := -7; y <= 60; y++ {
				holdsLineAt(t, p, y)
			}
			bare += count(len(p.Lines) == 0)
			for _, l := range p.Lines {
				empty += count(l.Text == "")
				full += count(l.Text != "")
			}
		}
	}
	if min(bare, empty, full) < 1000 {
		t.Errorf("%d pages without lines, %d lines without bytes, %d with some", bare, empty, full)
	}
}

// drawnParagraphs: the paragraphs of a text, each of words in several styles, and each but perhaps the last with a line end.
func drawnParagraphs(from *rand.Rand) []string {
	words := []string{"a ", "bb ", "ccc ", "d-d ", "\u00e9\u20ac ", "ff\u00adff ", "g\u00a0g ", "\t", "h\u2028", "  ", "\U0001f600\u200b"}
	var list []string
	for range from.IntN(5) {
		var s strings.Builder
		for range from.IntN(12) {
			s.WriteString(words[from.IntN(len(words))])
		}
		list = append(list, s.String()+"\n")
	}
	return append(list, strings.ReplaceAll("a"+drawnText(from, 3)+"b", "\n", ""))
}

// wholeRunes: runs of a text's bytes that end between runes, of styles that there are.
func wholeRunes(from *rand.Rand, text string) []api.Run {
	var list []api.Run
	for left := text; left != ""; {
		n := 1 + from.IntN(min(len(left), 9))
		for n < len(left) && !utf8.RuneStart(left[n]) {
			n++
		}
		list = append(list, api.Run{Len: n, Style: from.IntN(greatest)})
		left = left[n:]
	}
	return list
}

// laidOut: paragraphs' pages, as the layers below lay them.
func laidOut(t *testing.T, from *rand.Rand, m *metrics.Table, paras []string, width int) []api.Page {
	t.Helper()
	var all []api.Line
	var slots []api.Slot
	for _, text := range paras {
		list, _, e := lines.Paragraph(m, text, wholeRunes(from, text), width, measure.Usual())
		if e != api.OK {
			t.Fatalf("Paragraph(%q): %d", text, e)
		}
		all = append(all, list...)
		slots = append(slots, lines.Slots(list, false)...)
	}
	starts, e := pages.Paginate(slots, 60, measure.Usual())
	if e != api.OK {
		t.Fatalf("Paginate: %d", e)
	}
	return pages.Of(all, starts)
}

// P15.1 to P15.5: pages of texts, as the layers below lay them.
func TestLaidOut(t *testing.T) {
	m := table(t)
	from := rand.New(rand.NewPCG(15, 3))
	for range 1500 {
		width := pick(from, 30, 60, 100, 200)
		list := laidOut(t, from, m, drawnParagraphs(from), width)
		holdsBook(t, m, list)
		for n, p := range list {
			for k, l := range p.Lines {
				holdsLine(t, m, l)
				if y, ok := locate.LineAt(p, l.Y); y != k || !ok {
					t.Fatalf("LineAt of line %d's Y: %d, %v", k, y, ok)
				}
				holdsHit(t, m, list, api.Spot{Page: n, Line: k, X: from.IntN(width)})
			}
		}
	}
}

// drawnWords: words with one space between each two, in several styles.
func drawnWords(from *rand.Rand) string {
	list := []string{"ijl"}
	for range from.IntN(25) {
		list = append(list, "aaijaaa"[:1+from.IntN(7)])
	}
	return strings.Join(list, " ") + "\n"
}

// P15.4: a line of words whose glue is set, and no further shrunk than it may be, is as wide as lines are, but for what each space is rounded down.
func TestFilledLines(t *testing.T) {
	m := table(t)
	from := rand.New(rand.NewPCG(15, 4))
	stretched, shrunk := 0, 0
	for range 1000 {
		text := drawnWords(from)
		width := pick(from, 80, 120, 200, 300)
		list, _, e := lines.Paragraph(m, text, wholeRunes(from, text), width, measure.Usual())
		if e != api.OK {
			t.Fatalf("Paragraph(%q): %d", text, e)
		}
		for _, l := range list {
			if l.Num == 0 || l.Num <= -l.Den {
				continue
			}
			spaces := strings.Count(strings.TrimSpace(l.Text), " ")
			if got := locate.Width(m, l); got > width || got < width-spaces {
				t.Fatalf("Width(%+v): %d, in lines of %d", l, got, width)
			}
			stretched += count(l.Num > 0)
			shrunk += count(l.Num < 0)
		}
	}
	if min(stretched, shrunk) < 300 {
		t.Errorf("%d lines stretched, %d shrunk", stretched, shrunk)
	}
}

// P15.1 to P15.3: many pages, and a line as long as a document.
func TestGreatBooks(t *testing.T) {
	m := table(t)
	var list []api.Page
	for n := range 300 {
		list = append(list, page(strings.Repeat("ab c|", n%4)), page("|"))
	}
	holdsBook(t, m, list)
	l := api.Line{Text: strings.Repeat("aa b-\u00e9 ", api.MaxText/8), Num: 1, Den: 2}
	l.Runs = cut(1<<14, small, 1, ranged, 1<<14, wide)
	one := []api.Page{{Lines: []api.Line{l}}}
	stops := locate.Stops(m, l)
	for k := 0; k < len(stops); k += 5003 {
		if got, e := locate.Spot(m, one, stops[k].At); got != (api.Spot{X: stops[k].X}) || e != api.OK {
			t.Errorf("Spot of %d: %v, %d", stops[k].At, got, e)
		}
		if at, e := locate.Hit(m, one, api.Spot{X: stops[k].X}); k+1 < len(stops) && at != stops[k].At || e != api.OK {
			t.Errorf("Hit of %d: %d, %d, not %d", stops[k].X, at, e, stops[k].At)
		}
	}
	if last := stops[len(stops)-1]; last.At != len(l.Text) || last.X != locate.Width(m, l) {
		t.Errorf("the last Stop is %v, and Width %d", last, locate.Width(m, l))
	}
}

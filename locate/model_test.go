package locate_test

import (
	"math"
	"math/big"
	"slices"
	"strings"
	"testing"

	"reglet/api"
	"reglet/locate"
	"reglet/metrics"
	"reglet/scaled"
)

const (
	minInt = math.MinInt
	maxInt = math.MaxInt
	great  = api.MaxUnit
)

// The styles of styles by what they are for.
const (
	small    = 0
	wide     = 1
	ranged   = 2 // i to l are 3 wide, the letter E9 has no width
	greatest = 3
	none     = 9 // no such style
)

func styles() []api.Style {
	return []api.Style{
		{Height: 12, Space: 6, Stretch: 3, Shrink: 2, Hyphen: 4, Other: 7},
		{Height: 30, Space: 8, Stretch: 5, Shrink: 4, Hyphen: 9, Other: 10},
		{Height: 7, Space: 20, Stretch: 11, Shrink: 13, Hyphen: 14, Other: 15, Ranges: []api.Range{{Lo: 'i', Hi: 'l', Width: 3}, {Lo: 0xE9, Hi: 0xE9}}},
		{Height: 1, Space: great, Stretch: great, Shrink: great, Hyphen: great, Other: great},
	}
}

// table: of the styles.
func table(t testing.TB) *metrics.Table {
	t.Helper()
	m, e, at := metrics.New(styles())
	if e != api.OK {
		t.Fatalf("New: %d at %d", e, at)
	}
	return m
}

// cut: runs of pairs of numbers, how many bytes and which style.
func cut(pairs ...int) []api.Run {
	var list []api.Run
	for pair := range slices.Chunk(pairs, 2) {
		list = append(list, api.Run{Len: pair[0], Style: pair[1]})
	}
	return list
}

// page: of lines in the style 0, each with a bar behind it: none, if there is no bar.
func page(texts string) api.Page {
	var p api.Page
	for text := range strings.SplitAfterSeq(texts, "|") {
		if text == "" {
			continue
		}
		text = strings.TrimSuffix(text, "|")
		p.Lines = append(p.Lines, api.Line{Text: text, Runs: cut(len(text), small), Num: 1, Den: 3, Height: 12, Y: 12 * len(p.Lines)})
	}
	return p
}

// book: pages, each of lines with a bar behind each.
func book(pages ...string) []api.Page {
	var list []api.Page
	for _, texts := range pages {
		list = append(list, page(texts))
	}
	return list
}

// styled: the style with a number as the chapter of metrics tells it; zero, if there is none.
func styled(n int) api.Style {
	if n < 0 || n >= len(styles()) {
		return api.Style{}
	}
	return styles()[n]
}

// Runes by what they are to a line: those that the chapter of runes doesn't name are letters.
func blank(r rune) bool { return r == 0x20 || r == 0x9 }
func fast(r rune) bool  { return r == 0xA0 || r == 0x202F }
func flat(r rune) bool {
	return slices.Contains([]rune{0xAD, 0x200B, 0x2060, 0xFEFF, 0x2028, 0xA}, r)
}
func seen(r rune) bool { return !blank(r) && !flat(r) }

// clamped: an exact number as layer 1 tells it.
func clamped(n *big.Int) *big.Int {
	most := big.NewInt(scaled.Most)
	if n.CmpAbs(most) <= 0 {
		return n
	}
	return most.Mul(most, big.NewInt(int64(n.Sign())))
}

func exact(n int) *big.Int { return big.NewInt(int64(n)) }

// share: so many parts of num by den, rounded down; 0, if den isn't above 0.
func share(part, num, den int) *big.Int {
	if den <= 0 {
		return exact(0)
	}
	product := new(big.Int).Mul(exact(part), clamped(exact(num)))
	// Div of a divisor above 0 rounds down.
	return clamped(product.Div(product, clamped(exact(den))))
}

// plainWidth: how wide a rune of a line is, by P15.2's words; behind: the runes behind it.
func plainWidth(l api.Line, style int, r rune, behind []rune) *big.Int {
	s := styled(style)
	switch {
	case blank(r) && !slices.ContainsFunc(behind, seen):
		return exact(0)
	case blank(r) && l.Num > 0:
		return new(big.Int).Add(exact(s.Space), share(s.Stretch, l.Num, l.Den))
	case blank(r) && l.Num < 0:
		return new(big.Int).Add(exact(s.Space), share(s.Shrink, l.Num, l.Den))
	case blank(r) || fast(r):
		return exact(s.Space)
	case flat(r):
		return exact(0)
	}
	for _, of := range s.Ranges {
		if int(r) >= of.Lo && int(r) <= of.Hi {
			return exact(of.Width)
		}
	}
	return exact(s.Other)
}

// spelt: the style of each of so many bytes.
func spelt(list []api.Run, many int) []int {
	var all []int
	for _, run := range list {
		all = append(all, slices.Repeat([]int{run.Style}, min(max(run.Len, 0), many))...)
	}
	return append(all, make([]int, many)...)[:many]
}

// plainStops: what P15.2 says.
func plainStops(l api.Line) []locate.Stop {
	of, all := spelt(l.Runs, len(l.Text)), []rune(l.Text)
	stops := []locate.Stop{{}}
	x, at := exact(0), 0
	for k, r := range all {
		x = clamped(new(big.Int).Add(x, clamped(plainWidth(l, of[at], r, all[k+1:]))))
		at += len(string(r))
		stops = append(stops, locate.Stop{At: at, X: int(x.Int64())})
	}
	return stops
}

// plainWide: what P15.4 says of Width.
func plainWide(l api.Line) int {
	stops := plainStops(l)
	x := exact(stops[len(stops)-1].X)
	style := 0
	for _, run := range l.Runs {
		if run.Len > 0 {
			style = run.Style
		}
	}
	if l.Hyphen {
		x.Add(x, exact(styled(style).Hyphen))
	}
	return int(clamped(x).Int64())
}

// place: of a byte: a page, a line of it, how many bytes of that are ahead.
type place struct{ page, line, ahead int }

// bytePlaces: the place of each byte of pages; and the place at their end, if there is one.
func bytePlaces(list []api.Page) (all []place, end place, ok bool) {
	for n, p := range list {
		for k, l := range p.Lines {
			for ahead := range len(l.Text) {
				all = append(all, place{n, k, ahead})
			}
			end, ok = place{n, k, len(l.Text)}, true
		}
	}
	return all, end, ok
}

// plainLine: what P15.1 says of Line.
func plainLine(list []api.Page, at int) (place, bool) {
	all, end, ok := bytePlaces(list)
	switch {
	case at >= 0 && at < len(all):
		return all[at], true
	case at == len(all) && ok:
		return end, true
	}
	return place{}, false
}

// plainOffset: what P15.1 says of Offset, by the lines' texts one behind the other.
func plainOffset(list []api.Page, page, line int) (int, bool) {
	text := ""
	for n, p := range list {
		for k, l := range p.Lines {
			if n == page && k == line {
				return len(text), true
			}
			text += l.Text
		}
	}
	return 0, false
}

// plainSpot: what P15.3 says of Spot.
func plainSpot(list []api.Page, at int) (api.Spot, api.Errno) {
	p, ok := plainLine(list, at)
	if !ok {
		return api.Spot{}, api.ErrOffset
	}
	for _, s := range plainStops(list[p.page].Lines[p.line]) {
		if s.At == p.ahead {
			return api.Spot{Page: p.page, Line: p.line, X: s.X}, api.OK
		}
	}
	return api.Spot{}, api.ErrInside
}

// plainNearest: the number itself, if it is one of so many; else the first one or the last one.
func plainNearest(n, many int) int {
	switch {
	case n < 0:
		return 0
	case n >= many:
		return many - 1
	}
	return n
}

// plainHit: what P15.3 says of Hit.
func plainHit(list []api.Page, s api.Spot) (int, api.Errno) {
	if len(list) == 0 {
		return 0, api.ErrOffset
	}
	page := plainNearest(s.Page, len(list))
	if len(list[page].Lines) == 0 {
		return 0, api.ErrOffset
	}
	line := plainNearest(s.Line, len(list[page].Lines))
	ahead, _ := plainOffset(list, page, line)
	l := list[page].Lines[line]
	stops, behindSeen := plainStops(l), 0
	for k, r := range []rune(l.Text) {
		if stops[k+1].X > s.X {
			return ahead + stops[k].At, api.OK
		}
		if seen(r) {
			behindSeen = stops[k+1].At
		}
	}
	return ahead + behindSeen, api.OK
}

// plainLineAt: what P15.4 says of LineAt.
func plainLineAt(p api.Page, y int) (int, bool) {
	at := 0
	for k, l := range p.Lines {
		if l.Y <= y {
			at = k
		}
	}
	return at, len(p.Lines) > 0
}

// holdsLine holds what is told of one line against what the chapter says.
func holdsLine(t *testing.T, m *metrics.Table, l api.Line) []locate.Stop {
	t.Helper()
	got, want := locate.Stops(m, l), plainStops(l)
	if !slices.Equal(got, want) {
		t.Fatalf("Stops(%+v): %v, not %v", l, got, want)
	}
	if got, want := locate.Width(m, l), plainWide(l); got != want {
		t.Fatalf("Width(%+v): %d, not %d", l, got, want)
	}
	return got
}

// holdsPlace holds what is told of one byte against what the chapter says.
func holdsPlace(t *testing.T, m *metrics.Table, list []api.Page, at int) {
	t.Helper()
	page, line, ahead, ok := locate.Line(list, at)
	if want, wantOK := plainLine(list, at); ok != wantOK || want != (place{page, line, ahead}) {
		t.Fatalf("Line(%v, %d): %d, %d, %d, %v, not %v, %v", list, at, page, line, ahead, ok, want, wantOK)
	}
	spot, e := locate.Spot(m, list, at)
	if want, wantE := plainSpot(list, at); spot != want || e != wantE {
		t.Fatalf("Spot(%v, %d): %v, %d, not %v, %d", list, at, spot, e, want, wantE)
	}
}

// holdsHit holds what is hit at a spot against what the chapter says.
func holdsHit(t *testing.T, m *metrics.Table, list []api.Page, s api.Spot) {
	t.Helper()
	at, e := locate.Hit(m, list, s)
	if want, wantE := plainHit(list, s); at != want || e != wantE {
		t.Fatalf("Hit(%v, %v): %d, %d, not %d, %d", list, s, at, e, want, wantE)
	}
}

// holdsLineAt holds what is told of a height of a page against what the chapter says.
func holdsLineAt(t *testing.T, p api.Page, y int) {
	t.Helper()
	k, ok := locate.LineAt(p, y)
	if want, wantOK := plainLineAt(p, y); k != want || ok != wantOK {
		t.Fatalf("LineAt(%v, %d): %d, %v, not %d, %v", p, y, k, ok, want, wantOK)
	}
}

// holdsOffset holds what is told of one line's beginning against what the chapter says.
func holdsOffset(t *testing.T, list []api.Page, page, line int) {
	t.Helper()
	at, ok := locate.Offset(list, page, line)
	if want, wantOK := plainOffset(list, page, line); at != want || ok != wantOK {
		t.Fatalf("Offset(%v, %d, %d): %d, %v, not %d, %v", list, page, line, at, ok, want, wantOK)
	}
}

// holdsBack: what P15.5 says, of each line. (A line without bytes begins where the next one with bytes does.)
func holdsBack(t *testing.T, m *metrics.Table, list []api.Page) {
	t.Helper()
	for n, p := range list {
		for k, l := range p.Lines {
			at, ok := locate.Offset(list, n, k)
			spot, e := locate.Spot(m, list, at)
			if !ok || e != api.OK || spot.X != 0 {
				t.Fatalf("%v: Offset of page %d, line %d is %d, %v, and Spot of it %v, %d", list, n, k, at, ok, spot, e)
			}
			if l.Text != "" && (spot.Page != n || spot.Line != k) {
				t.Fatalf("%v: Spot of Offset of page %d, line %d is %v", list, n, k, spot)
			}
			if begins, _ := locate.Offset(list, spot.Page, spot.Line); begins != at {
				t.Fatalf("%v: page %d, line %d begins at %d, and Spot tells a line of %d", list, n, k, at, begins)
			}
			for ahead := range len(l.Text) {
				if page, line, into, ok := locate.Line(list, at+ahead); page != n || line != k || into != ahead || !ok {
					t.Fatalf("%v: Line of byte %d of page %d, line %d: %d, %d, %d, %v", list, ahead, n, k, page, line, into, ok)
				}
			}
		}
	}
}

// holdsBook holds all that is told of pages against what the chapter says: of all their places and lines, and of those around them.
func holdsBook(t *testing.T, m *metrics.Table, list []api.Page) {
	t.Helper()
	all, _, _ := bytePlaces(list)
	if got := locate.Size(list); got != len(all) {
		t.Fatalf("Size(%v): %d, not %d", list, got, len(all))
	}
	for at := -2; at <= len(all)+2; at++ {
		holdsPlace(t, m, list, at)
	}
	for n := -1; n <= len(list); n++ {
		most := 0
		if n >= 0 && n < len(list) {
			most = len(list[n].Lines)
		}
		for k := -1; k <= most; k++ {
			holdsOffset(t, list, n, k)
			holdsHit(t, m, list, api.Spot{Page: n, Line: k, X: 5})
		}
	}
	holdsBack(t, m, list)
}

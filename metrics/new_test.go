package metrics_test

import (
	"math"
	"math/rand/v2"
	"slices"
	"testing"

	"reglet/api"
	"reglet/metrics"
)

const unit = api.MaxUnit

// checkNew: does New answer a fault, and no table beside it, or a table of these styles?
func checkNew(t *testing.T, styles []api.Style, want api.Errno, place int) {
	t.Helper()
	m, e, at := metrics.New(styles)
	if e != want || at != place || (m == nil) != (want != api.OK) {
		t.Fatalf("New(%v) = %v, %d, %d, not %d, %d", styles, m, e, at, want, place)
	}
	if m != nil {
		checkHas(t, m, styles)
	}
}

// checkHas: are these the styles of a table?
func checkHas(t *testing.T, m *metrics.Table, styles []api.Style) {
	t.Helper()
	if n := m.Styles(); n != len(styles) {
		t.Fatalf("Styles() = %d, not %d", n, len(styles))
	}
	for k, s := range styles {
		if got := m.Style(k); !alike(got, s) {
			t.Fatalf("Style(%d) = %v, not %v", k, got, s)
		}
	}
}

// P4.1: no styles, as many as there may be, and more; the first one's fault where each has one.
func TestNewCounts(t *testing.T) {
	checkNew(t, nil, api.ErrStyles, 0)
	checkNew(t, []api.Style{}, api.ErrStyles, 0)
	for many := 1; many < 100; many++ {
		styles, wrong := make([]api.Style, many), make([]api.Style, many)
		for k := range styles {
			styles[k] = changed(func(s *api.Style) { s.Height = k + 1 })
		}
		if many <= 32 {
			checkNew(t, styles, api.OK, 0)
			checkNew(t, wrong, api.ErrWidth, 0)
			styles[many-1].Height = 0
			checkNew(t, styles, api.ErrWidth, many-1)
		} else {
			checkNew(t, styles, api.ErrStyles, 0)
			checkNew(t, wrong, api.ErrStyles, 0)
		}
	}
}

// P4.1: of several styles with faults, the first one's and its number, whatever the others' are.
func TestNewFirstFault(t *testing.T) {
	width := changed(func(s *api.Style) { s.Other = -1 })
	ranges := changed(func(s *api.Style) { s.Ranges[2].Lo = 'g' })
	for _, c := range []struct {
		styles []api.Style
		want   api.Errno
		at     int
	}{
		{[]api.Style{width, ranges}, api.ErrWidth, 0},
		{[]api.Style{ranges, width}, api.ErrRanges, 0},
		{[]api.Style{good(), width, ranges}, api.ErrWidth, 1},
		{[]api.Style{good(), ranges, width}, api.ErrRanges, 1},
		{[]api.Style{good(), good(), good(), ranges}, api.ErrRanges, 3},
		{[]api.Style{good(), width, good(), ranges}, api.ErrWidth, 1},
		{[]api.Style{{Height: 1}, {Height: 1, Space: 2, Shrink: 3}}, api.ErrWidth, 1},
	} {
		checkNew(t, c.styles, c.want, c.at)
	}
}

// P4.1: every measure of a style at its bounds, on both sides of them, and far beyond.
func TestNewMeasures(t *testing.T) {
	for _, f := range []struct {
		set   func(*api.Style, int)
		least int
	}{
		{func(s *api.Style, n int) { s.Height = n }, 1},
		{func(s *api.Style, n int) { s.Space, s.Shrink = n, 0 }, 0},
		{func(s *api.Style, n int) { s.Stretch = n }, 0},
		{func(s *api.Style, n int) { s.Space, s.Shrink = unit, n }, 0},
		{func(s *api.Style, n int) { s.Hyphen = n }, 0},
		{func(s *api.Style, n int) { s.Other = n }, 0},
		{func(s *api.Style, n int) { s.Ranges[0].Width = n }, 0},
		{func(s *api.Style, n int) { s.Ranges[5].Width = n }, 0},
	} {
		for _, n := range []int{math.MinInt, -unit, -2, -1, 0, 1, 2, unit - 1, unit, unit + 1, 1 << 32, math.MaxInt} {
			want, at := api.OK, 0
			if n < f.least || n > unit {
				want, at = api.ErrWidth, 1
			}
			checkNew(t, []api.Style{good(), changed(func(s *api.Style) { f.set(s, n) }), good()}, want, at)
		}
	}
}

// P4.1: Shrink below, at and above Space.
func TestNewShrink(t *testing.T) {
	for _, c := range []struct {
		space, shrink int
		want          api.Errno
	}{
		{0, 0, api.OK}, {1, 0, api.OK}, {1, 1, api.OK}, {0, 1, api.ErrWidth}, {1, 2, api.ErrWidth}, {2, 3, api.ErrWidth},
		{unit, unit, api.OK}, {unit, unit - 1, api.OK}, {unit - 1, unit, api.ErrWidth}, {-1, -1, api.ErrWidth}, {-1, -2, api.ErrWidth}, {unit + 1, unit + 1, api.ErrWidth},
	} {
		checkNew(t, []api.Style{changed(func(s *api.Style) { s.Space, s.Shrink = c.space, c.shrink })}, c.want, 0)
	}
}

// P4.1: where a range may begin and end, alone and behind another.
func TestNewRanges(t *testing.T) {
	ahead := api.Range{Lo: 10, Hi: 20, Width: 1}
	for _, c := range []struct {
		list []api.Range
		want api.Errno
	}{
		{nil, api.OK}, {[]api.Range{}, api.OK}, {[]api.Range{{}}, api.OK},
		{[]api.Range{{Lo: 0, Hi: 0x10FFFF}}, api.OK}, {[]api.Range{{Lo: 0, Hi: 0x110000}}, api.ErrRanges}, {[]api.Range{{Lo: 0, Hi: math.MaxInt}}, api.ErrRanges},
		{[]api.Range{{Lo: -1, Hi: 5}}, api.ErrRanges}, {[]api.Range{{Lo: -1, Hi: -1}}, api.ErrRanges}, {[]api.Range{{Lo: math.MinInt, Hi: 5}}, api.ErrRanges}, {[]api.Range{{Lo: math.MinInt, Hi: math.MinInt}}, api.ErrRanges},
		{[]api.Range{{Lo: 5, Hi: 5}}, api.OK}, {[]api.Range{{Lo: 5, Hi: 4}}, api.ErrRanges}, {[]api.Range{{Lo: 5, Hi: -1}}, api.ErrRanges}, {[]api.Range{{Lo: 5, Hi: math.MinInt}}, api.ErrRanges}, {[]api.Range{{Lo: math.MaxInt, Hi: math.MinInt}}, api.ErrRanges},
		{[]api.Range{{Lo: 0x10FFFF, Hi: 0x10FFFF}}, api.OK}, {[]api.Range{{Lo: 0x110000, Hi: 0x110000}}, api.ErrRanges}, {[]api.Range{{Lo: 0xD800, Hi: 0xDFFF}}, api.OK},
		{[]api.Range{ahead, {Lo: 21, Hi: 21}}, api.OK}, {[]api.Range{ahead, {Lo: 20, Hi: 30}}, api.ErrRanges}, {[]api.Range{ahead, {Lo: 19, Hi: 30}}, api.ErrRanges},
		{[]api.Range{ahead, {Lo: 0, Hi: 9}}, api.ErrRanges}, {[]api.Range{ahead, {Lo: -1, Hi: 30}}, api.ErrRanges}, {[]api.Range{ahead, {Lo: math.MinInt, Hi: 30}}, api.ErrRanges}, {[]api.Range{ahead, ahead}, api.ErrRanges},
		{[]api.Range{ahead, {Lo: 25, Hi: 24}}, api.ErrRanges}, {[]api.Range{ahead, {Lo: 25, Hi: 0x10FFFF}}, api.OK}, {[]api.Range{ahead, {Lo: 25, Hi: 0x110000}}, api.ErrRanges},
		{[]api.Range{ahead, {Lo: 21, Hi: 22}, {Lo: 22, Hi: 30}}, api.ErrRanges}, {[]api.Range{ahead, {Lo: 21, Hi: 22}, {Lo: 23, Hi: 30}}, api.OK},
		{[]api.Range{{Lo: 0, Hi: 0x10FFFF}, {Lo: 0x110000, Hi: 0x110000}}, api.ErrRanges},
	} {
		at := 0
		if c.want != api.OK {
			at = 2
		}
		checkNew(t, []api.Style{good(), good(), changed(func(s *api.Style) { s.Ranges = c.list })}, c.want, at)
	}
}

// P4.1: as many ranges as there may be, and more.
func TestNewRangesCount(t *testing.T) {
	for many := range 200 {
		list := make([]api.Range, many)
		for k := range list {
			list[k] = api.Range{Lo: 2 * k, Hi: 2*k + k%2, Width: k}
		}
		want := api.OK
		if many > 64 {
			want = api.ErrRanges
		}
		checkNew(t, []api.Style{changed(func(s *api.Style) { s.Ranges = list })}, want, 0)
		if many > 0 { // the number of ranges comes ahead of what the ranges have
			list[0].Width = -1
			checkNew(t, []api.Style{changed(func(s *api.Style) { s.Ranges = list })}, max(want, api.ErrWidth), 0)
		}
	}
}

// P4.1: the order of faults where more than one stands: measures, the number of ranges, then range by range its place and its width.
func TestNewOrder(t *testing.T) {
	many := make([]api.Range, 65)
	for _, c := range []struct {
		name   string
		change func(*api.Style)
		want   api.Errno
	}{
		{"a measure ahead of the number", func(s *api.Style) { s.Ranges, s.Other = many, -1 }, api.ErrWidth},
		{"Shrink ahead of the number", func(s *api.Style) { s.Ranges, s.Shrink = many, s.Space+1 }, api.ErrWidth},
		{"a measure ahead of a place", func(s *api.Style) { s.Ranges[0].Lo, s.Height = -1, 0 }, api.ErrWidth},
		{"Shrink ahead of a place", func(s *api.Style) { s.Ranges[0].Lo, s.Shrink = -1, s.Space+1 }, api.ErrWidth},
		{"the number ahead of a width", func(s *api.Style) { s.Ranges = many; s.Ranges[0].Width = -1 }, api.ErrRanges},
		{"a place ahead of its own width", func(s *api.Style) { s.Ranges[1].Hi, s.Ranges[1].Width = 'f', -1 }, api.ErrRanges},
		{"a width ahead of the next one's place", func(s *api.Style) { s.Ranges[1].Width, s.Ranges[2].Lo = -1, 'g' }, api.ErrWidth},
		{"a place ahead of the next one's width", func(s *api.Style) { s.Ranges[1].Lo, s.Ranges[2].Width = 'f', -1 }, api.ErrRanges},
		{"a width ahead of the last one's place", func(s *api.Style) { s.Ranges[0].Width, s.Ranges[5].Hi = unit+1, 0x110000 }, api.ErrWidth},
		{"a place ahead of the last one's width", func(s *api.Style) { s.Ranges[0].Lo, s.Ranges[5].Width = -1, unit+1 }, api.ErrRanges},
	} {
		t.Run(c.name, func(t *testing.T) { checkNew(t, []api.Style{good(), changed(c.change)}, c.want, 1) })
	}
}

// P4.1, held against its sentence: drawn styles with some numbers put at the edges.
func TestNewDrawn(t *testing.T) {
	from := rand.New(rand.NewPCG(4, 1))
	seen := [50]int{}
	for range 20000 {
		styles := drawn(from, 1+from.IntN(4))
		for range from.IntN(4) {
			spoilOne(from, &styles[from.IntN(len(styles))])
		}
		e, at := firstFault(styles)
		checkNew(t, styles, e, at)
		seen[e]++
	}
	for _, e := range []api.Errno{api.OK, api.ErrWidth, api.ErrRanges} {
		if seen[e] < 1000 {
			t.Errorf("%d came %d times", e, seen[e])
		}
	}
}

// spoilOne puts one number of a style at an edge.
func spoilOne(from *rand.Rand, s *api.Style) {
	edges := []int{math.MinInt, -1, 0, 1, unit, unit + 1, 0x10FFFF, 0x110000, math.MaxInt}
	places := []*int{&s.Height, &s.Space, &s.Stretch, &s.Shrink, &s.Hyphen, &s.Other}
	for range min(len(s.Ranges), 4) {
		r := &s.Ranges[from.IntN(len(s.Ranges))]
		places = append(places, &r.Lo, &r.Hi, &r.Width)
		edges = append(edges, r.Lo, r.Lo-1, r.Lo+1, r.Hi, r.Hi-1, r.Hi+1)
	}
	*places[from.IntN(len(places))] = edges[from.IntN(len(edges))]
}

// P2 (rule 4), P4.2: a table stays as it was given when the caller's styles are changed behind New, and so are these left alone.
func TestNewKeepsItsOwn(t *testing.T) {
	room := make([]api.Style, 8)
	spare := make([]api.Range, 9)
	copy(room, three())
	copy(spare, room[0].Ranges)
	room[0].Ranges = spare[:6]
	kept, keptSpare := copied(room), slices.Clone(spare)
	m := made(t, room[:3])
	for k := range room {
		if !alike(room[k], kept[k]) {
			t.Fatalf("New changed the style %d", k)
		}
	}
	if !slices.Equal(spare, keptSpare) {
		t.Fatalf("New changed the ranges")
	}
	for k := range spare {
		spare[k] = api.Range{Lo: 1, Hi: 2, Width: 3}
	}
	room[1].Ranges[0].Width = 99
	for k := range room {
		room[k] = api.Style{Height: 99}
	}
	checkHas(t, m, three())
	if n := m.Text(0, "aQ") + m.Text(1, "a"); n != 21+7+17 {
		t.Errorf("widths are %d together", n)
	}
}

// P2 (rule 3): a refused call changes nothing of a table that there is.
func TestNewRefused(t *testing.T) {
	m := made(t, three())
	metrics.New(nil)
	metrics.New([]api.Style{{}})
	metrics.New([]api.Style{changed(func(s *api.Style) { s.Ranges[0].Lo = -1 })})
	checkHas(t, m, three())
}

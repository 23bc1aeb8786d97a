package metrics_test

import (
	"math"
	"math/rand/v2"
	"reflect"
	"testing"

	"reglet/api"
	"reglet/metrics"
)

// checkSame: are two tables told to be alike, or not, whichever comes first?
func checkSame(t *testing.T, name string, a, b *metrics.Table, want bool) {
	t.Helper()
	if metrics.Same(a, b) != want || metrics.Same(b, a) != want {
		t.Errorf("%s: %v and %v, not %v", name, metrics.Same(a, b), metrics.Same(b, a), want)
	}
}

// P4.4: tables that differ in one thing alone.
func TestSame(t *testing.T) {
	m := made(t, three())
	checkSame(t, "itself", m, m, true)
	checkSame(t, "a like one", m, made(t, three()), true)
	for name, change := range map[string]func([]api.Style) []api.Style{
		"Height":        func(l []api.Style) []api.Style { l[1].Height++; return l },
		"Space":         func(l []api.Style) []api.Style { l[1].Space++; return l },
		"Stretch":       func(l []api.Style) []api.Style { l[1].Stretch++; return l },
		"Shrink":        func(l []api.Style) []api.Style { l[1].Shrink++; return l },
		"Hyphen":        func(l []api.Style) []api.Style { l[1].Hyphen++; return l },
		"Other":         func(l []api.Style) []api.Style { l[1].Other++; return l },
		"Keep":          func(l []api.Style) []api.Style { l[1].Keep = true; return l },
		"a Lo":          func(l []api.Style) []api.Style { l[0].Ranges[5].Lo++; return l },
		"a Hi":          func(l []api.Style) []api.Style { l[0].Ranges[5].Hi++; return l },
		"a Width":       func(l []api.Style) []api.Style { l[0].Ranges[5].Width++; return l },
		"a range less":  func(l []api.Style) []api.Style { l[0].Ranges = l[0].Ranges[:5]; return l },
		"no ranges":     func(l []api.Style) []api.Style { l[0].Ranges = nil; return l },
		"a range more":  func(l []api.Style) []api.Style { l[2].Ranges = []api.Range{{}}; return l },
		"the order":     func(l []api.Style) []api.Style { l[0], l[2] = l[2], l[0]; return l },
		"the last two":  func(l []api.Style) []api.Style { l[1], l[2] = l[2], l[1]; return l },
		"a style less":  func(l []api.Style) []api.Style { return l[:2] },
		"a style more":  func(l []api.Style) []api.Style { return append(l, good()) },
		"another first": func(l []api.Style) []api.Style { return l[1:] },
	} {
		checkSame(t, name, m, made(t, change(three())), false)
	}
}

// P4.4: an empty list of ranges is like none.
func TestSameEmptyRanges(t *testing.T) {
	none := made(t, []api.Style{changed(func(s *api.Style) { s.Ranges = nil })})
	empty := made(t, []api.Style{changed(func(s *api.Style) { s.Ranges = []api.Range{} })})
	checkSame(t, "empty and none", none, empty, true)
	checkSame(t, "empty and some", made(t, []api.Style{good()}), empty, false)
}

// P4.4: nil is the same as nil alone.
func TestSameNil(t *testing.T) {
	checkSame(t, "nil and nil", nil, nil, true)
	checkSame(t, "nil and a table", nil, made(t, three()), false)
	checkSame(t, "nil and a plain table", nil, made(t, metrics.Plain(1, 0)), false)
}

// P4.4: drawn tables are the same, if their styles are, and no others.
func TestSameDrawn(t *testing.T) {
	from := rand.New(rand.NewPCG(4, 4))
	for range 500 {
		styles := drawn(from, 1+from.IntN(5))
		m := made(t, styles)
		checkSame(t, "a copy", m, made(t, copied(styles)), true)
		other := copied(styles)
		spoilOne(from, &other[from.IntN(len(other))])
		n, e, _ := metrics.New(other)
		if e != api.OK {
			continue
		}
		want := true
		for k := range styles {
			want = want && alike(styles[k], other[k])
		}
		checkSame(t, "a changed copy", m, n, want)
	}
}

// P4.4: at 0, at odd widths, and below 0, where parts are taken towards 0.
func TestPlain(t *testing.T) {
	for _, c := range []struct{ height, width, half, third int }{
		{10, 6, 3, 2}, {0, 0, 0, 0}, {1, 1, 0, 0}, {7, 2, 1, 0}, {7, 3, 1, 1}, {7, 5, 2, 1}, {7, 7, 3, 2}, {1, 11, 5, 3}, {2, 1048575, 524287, 349525},
		{-1, -1, 0, 0}, {-5, -2, -1, 0}, {-5, -5, -2, -1}, {0, -7, -3, -2}, {3, -8, -4, -2},
		{math.MaxInt, math.MaxInt, math.MaxInt / 2, math.MaxInt / 3}, {math.MinInt, math.MinInt, -1 << 62, -3074457345618258602},
	} {
		want := []api.Style{{Height: c.height, Space: c.width, Stretch: c.half, Shrink: c.third, Hyphen: c.width, Other: c.width}}
		if got := metrics.Plain(c.height, c.width); !reflect.DeepEqual(got, want) {
			t.Errorf("Plain(%d, %d) = %v, not %v", c.height, c.width, got, want)
		}
	}
}

// P2 (rule 4): each answer of Plain is new memory.
func TestPlainIsNewMemory(t *testing.T) {
	first := metrics.Plain(10, 6)
	second := metrics.Plain(10, 6)
	first[0].Height = 1
	if second[0].Height != 10 || metrics.Plain(10, 6)[0].Height != 10 {
		t.Errorf("two answers share their memory")
	}
}

// P4.1, P4.4: what Plain tells makes a table, where its measures may be.
func TestPlainMakesTables(t *testing.T) {
	for _, width := range []int{0, 1, 2, 3, 6, 7, unit} {
		m := made(t, metrics.Plain(10, width))
		if n := m.Text(0, "a b-"); n != 4*width {
			t.Errorf("four runes in Plain(10, %d) are %d wide", width, n)
		}
	}
	for _, c := range [][2]int{{0, 6}, {-1, 6}, {unit + 1, 6}, {10, -1}, {10, unit + 1}} {
		checkNew(t, metrics.Plain(c[0], c[1]), api.ErrWidth, 0)
	}
}

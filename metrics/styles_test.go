package metrics_test

import (
	"math"
	"reflect"
	"testing"

	"reglet/api"
	"reglet/metrics"
)

// P4.2: what each style has.
func TestStyles(t *testing.T) {
	for many := 1; many <= 3; many++ {
		styles := three()[:many]
		m := made(t, styles)
		checkHas(t, m, styles)
		for k, s := range styles {
			if e := m.Check(k); e != api.OK {
				t.Errorf("Check(%d) = %d", k, e)
			}
			if n := m.Height(k); n != s.Height {
				t.Errorf("Height(%d) = %d, not %d", k, n, s.Height)
			}
			if n := m.Hyphen(k); n != s.Hyphen {
				t.Errorf("Hyphen(%d) = %d, not %d", k, n, s.Hyphen)
			}
			if yes := m.Keep(k); yes != s.Keep {
				t.Errorf("Keep(%d) = %v", k, yes)
			}
			if a, b, c := m.Space(k); a != s.Space || b != s.Stretch || c != s.Shrink {
				t.Errorf("Space(%d) = %d, %d, %d", k, a, b, c)
			}
		}
	}
}

// P4.2, P4.3: all zero of a style that there is none of, for every rune and text.
func TestNoSuchStyle(t *testing.T) {
	for many := 1; many <= 3; many++ {
		m := made(t, three()[:many])
		for _, k := range []int{math.MinInt, -many, -2, -1, many, many + 1, api.MaxStyles, 1 << 32, 1<<32 + 1, math.MaxInt} {
			checkNone(t, m, k)
		}
	}
	none, _, _ := metrics.New(nil)
	checkNone(t, none, 0)
	if n := none.Styles() + none.Tallest([]api.Run{{Len: 1}}); n != 0 {
		t.Errorf("of no table: %d", n)
	}
}

// checkNone: does a table tell that there is no such style?
func checkNone(t *testing.T, m *metrics.Table, style int) {
	t.Helper()
	if e := m.Check(style); e != api.ErrStyle {
		t.Errorf("Check(%d) = %d", style, e)
	}
	if s := m.Style(style); !reflect.DeepEqual(s, api.Style{}) {
		t.Errorf("Style(%d) = %v", style, s)
	}
	a, b, c := m.Space(style)
	for k, n := range []int{m.Height(style), m.Hyphen(style), a, b, c, m.Text(style, ""), m.Text(style, "a b\u00A0-\u00e9\U0001f600")} {
		if n != 0 {
			t.Errorf("number %d of the style %d is %d", k, style, n)
		}
	}
	if m.Keep(style) {
		t.Errorf("Keep(%d)", style)
	}
	for _, r := range kinds() {
		if n := m.Width(style, r); n != 0 {
			t.Errorf("Width(%d, %X) = %d", style, r, n)
		}
	}
}

// P4.2: a style is told as it was given, its list of ranges too, be it none, empty or not.
func TestStyleAsGiven(t *testing.T) {
	styles := append(three(), changed(func(s *api.Style) { s.Ranges = []api.Range{} }))
	m := made(t, copied(styles))
	for k, s := range styles {
		if got := m.Style(k); !reflect.DeepEqual(got, s) {
			t.Errorf("Style(%d) = %#v, not %#v", k, got, s)
		}
	}
}

// P2 (rule 4): what Style answers is new memory: another answer and the table don't see what is done to it.
func TestStyleIsNewMemory(t *testing.T) {
	m := made(t, three())
	first, second := m.Style(0), m.Style(0)
	for k := range first.Ranges[:cap(first.Ranges)] {
		first.Ranges[:cap(first.Ranges)][k] = api.Range{Lo: 1, Hi: 2, Width: 3}
	}
	if !alike(second, good()) {
		t.Errorf("two answers share their ranges: %v", second)
	}
	checkHas(t, m, three())
	if n := m.Width(0, 'a'); n != 21 {
		t.Errorf("Width(0, a) = %d", n)
	}
}

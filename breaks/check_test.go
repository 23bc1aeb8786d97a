package breaks_test

import (
	"math"
	"testing"

	"reglet/api"
	"reglet/breaks"
	"reglet/measure"
)

// wrongWidths: none of them may be.
func wrongWidths() []int {
	return []int{0, -1, -100, math.MinInt, 1<<30 + 1, 1 << 31, 1 << 50, math.MaxInt}
}

// wrongSettings: none of them may be, each for another field.
func wrongSettings() []api.Settings {
	list := []api.Settings{{}}
	for _, change := range []func(s *api.Settings){
		func(s *api.Settings) { s.Tolerance = -1 }, func(s *api.Settings) { s.Tolerance = 10001 },
		func(s *api.Settings) { s.Line = -1 }, func(s *api.Settings) { s.Line = 10001 },
		func(s *api.Settings) { s.Adjacent = -1 }, func(s *api.Settings) { s.Adjacent = 1<<20 + 1 },
		func(s *api.Settings) { s.Double = -1 }, func(s *api.Settings) { s.Double = 1<<20 + 1 },
		func(s *api.Settings) { s.Last = -1 }, func(s *api.Settings) { s.Last = 1<<20 + 1 },
		func(s *api.Settings) { s.Orphans = 0 }, func(s *api.Settings) { s.Orphans = 101 },
		func(s *api.Settings) { s.Widows = 0 }, func(s *api.Settings) { s.Widows = 101 },
	} {
		s := measure.Usual()
		change(&s)
		list = append(list, s)
	}
	return list
}

// rightSettings: all of them may be.
func rightSettings() []api.Settings {
	return []api.Settings{
		measure.Usual(),
		{Orphans: 1, Widows: 1},
		{Tolerance: 10000, Line: 10000, Adjacent: 1 << 20, Double: 1 << 20, Last: 1 << 20, Orphans: 100, Widows: 100},
	}
}

// P9.1, P9.2: holdsCheck asks Check and Break for one error; beside it a Breaking is zero.
func holdsCheck(t *testing.T, width int, set api.Settings, want api.Errno) {
	t.Helper()
	if e := breaks.Check(width, set); e != want {
		t.Errorf("Check(%d, %v): %d, not %d", width, set, e, want)
	}
	for _, list := range [][]api.Item{{forced()}, words(30, 30, 30)} {
		b, e := breaks.Break(made(t, list), width, set)
		if e != want {
			t.Errorf("Break(%d, %v): %d, not %d", width, set, e, want)
		}
		if want != api.OK && !alike(b, api.Breaking{}) {
			t.Errorf("Break(%d, %v): %v beside %d", width, set, b, e)
		}
		if want == api.OK && len(b.Breaks) == 0 {
			t.Errorf("Break(%d, %v): no lines", width, set)
		}
	}
}

// P9.1: widths at their ends, and settings that may not be; of both the width's error is the first.
func TestCheck(t *testing.T) {
	for _, set := range rightSettings() {
		for _, width := range []int{1, 2, 70, 1<<30 - 1, 1 << 30} {
			holdsCheck(t, width, set, api.OK)
		}
		for _, width := range wrongWidths() {
			holdsCheck(t, width, set, api.ErrWidth)
		}
	}
	for _, set := range wrongSettings() {
		for _, width := range []int{1, 70, 1 << 30} {
			holdsCheck(t, width, set, api.ErrSettings)
		}
		for _, width := range wrongWidths() {
			holdsCheck(t, width, set, api.ErrWidth)
		}
	}
}

// P1: what New never makes: no paragraph, and one without items.
func TestNoPara(t *testing.T) {
	for _, p := range []*measure.Para{nil, new(measure.Para)} {
		for _, set := range rightSettings() {
			if b, e := breaks.Break(p, 10, set); e != api.OK || !alike(b, api.Breaking{}) {
				t.Errorf("Break of no paragraph: %v, %d", b, e)
			}
		}
		if b, e := breaks.Break(p, 0, measure.Usual()); e != api.ErrWidth || !alike(b, api.Breaking{}) {
			t.Errorf("Break of no paragraph, width 0: %v, %d", b, e)
		}
	}
}

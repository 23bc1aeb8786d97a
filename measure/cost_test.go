package measure_test

import (
	"math"
	"testing"

	"reglet/api"
	"reglet/measure"
)

// P8.4: each field at, below and above its bounds.
func TestCheck(t *testing.T) {
	for _, c := range []struct {
		name        string
		least, most int
		field       func(s *api.Settings) *int
	}{
		{"Tolerance", 0, 10000, func(s *api.Settings) *int { return &s.Tolerance }},
		{"Line", 0, 10000, func(s *api.Settings) *int { return &s.Line }},
		{"Adjacent", 0, 1048576, func(s *api.Settings) *int { return &s.Adjacent }},
		{"Double", 0, 1048576, func(s *api.Settings) *int { return &s.Double }},
		{"Last", 0, 1048576, func(s *api.Settings) *int { return &s.Last }},
		{"Orphans", 1, 100, func(s *api.Settings) *int { return &s.Orphans }},
		{"Widows", 1, 100, func(s *api.Settings) *int { return &s.Widows }},
	} {
		for _, n := range []int{math.MinInt, c.least - 2, c.least - 1, c.least, c.least + 1, c.most - 1, c.most, c.most + 1, c.most + 2, math.MaxInt} {
			s := measure.Usual()
			*c.field(&s) = n
			want := api.OK
			if n < c.least || n > c.most {
				want = api.ErrSettings
			}
			if e := measure.Check(s); e != want {
				t.Errorf("Check with %s %d: %d, not %d", c.name, n, e, want)
			}
		}
	}
	for _, c := range []struct {
		s    api.Settings
		want api.Errno
	}{
		{api.Settings{}, api.ErrSettings},
		{api.Settings{Orphans: 1, Widows: 1}, api.OK},
		{api.Settings{Tolerance: 10000, Line: 10000, Adjacent: 1 << 20, Double: 1 << 20, Last: 1 << 20, Orphans: 100, Widows: 100}, api.OK},
		{api.Settings{Tolerance: -1, Line: -1, Adjacent: -1, Double: -1, Last: -1}, api.ErrSettings},
	} {
		if e := measure.Check(c.s); e != c.want {
			t.Errorf("Check(%v): %d, not %d", c.s, e, c.want)
		}
	}
}

// P8.5: Usual.
func TestUsual(t *testing.T) {
	want := api.Settings{Tolerance: 200, Line: 10, Adjacent: 10000, Double: 10000, Last: 5000, Orphans: 2, Widows: 2}
	if got := measure.Usual(); got != want || measure.Check(got) != api.OK {
		t.Errorf("Usual: %v, Check %d", got, measure.Check(got))
	}
}

// unlikes: settings whose costs are told apart in any sum of them.
func unlikes() api.Settings {
	return api.Settings{Tolerance: 77, Line: 10, Adjacent: 100000, Double: 200000, Last: 400000, Orphans: 5, Widows: 6}
}

// P8.5: Cost, written out.
func TestCost(t *testing.T) {
	end := func(cost int, flag bool) api.Item { return api.Item{Kind: api.Penalty, Cost: cost, Flag: flag} }
	decent := api.Fit{Bad: 5, Class: api.Decent}
	none := measure.Ahead{Class: -1}
	for _, c := range []struct {
		f     api.Fit
		end   api.Item
		ahead measure.Ahead
		last  bool
		want  int
	}{
		// Demerits alone: Line and Bad together, squared, and the end's Cost.
		{decent, end(0, false), none, false, 225}, {api.Fit{Class: 1}, api.Item{Kind: api.Glue}, none, false, 100}, {api.Fit{Bad: 10000, Class: 3}, end(0, false), none, false, 10010 * 10010},
		{decent, end(50, false), none, false, 2725}, {decent, end(-5, false), none, false, 200}, {decent, end(-15, false), none, false, 0}, {decent, end(-9999, false), none, false, 0},
		{decent, end(-10000, false), none, false, 225}, {decent, end(9999, false), none, false, 225 + 9999*9999},
		// Over: Awful, whatever else there is.
		{api.Fit{Bad: 10000, Over: true}, end(0, false), none, false, 1 << 50}, {api.Fit{Over: true, Class: 1}, end(-9999, true), measure.Ahead{Class: 1}, true, 1 << 50},
		// Classes apart by 0, 1, 2 and 3, either way round.
		{decent, end(0, false), measure.Ahead{Class: 1}, false, 225}, {decent, end(0, false), measure.Ahead{Class: 0}, false, 225}, {decent, end(0, false), measure.Ahead{Class: 2}, false, 225}, {decent, end(0, false), measure.Ahead{Class: 3}, false, 100225},
		{api.Fit{Class: 0}, end(0, false), measure.Ahead{Class: 0}, false, 100}, {api.Fit{Class: 0}, end(0, false), measure.Ahead{Class: 1}, false, 100}, {api.Fit{Class: 0}, end(0, false), measure.Ahead{Class: 2}, false, 100100}, {api.Fit{Class: 0}, end(0, false), measure.Ahead{Class: 3}, false, 100100},
		{api.Fit{Class: 2}, end(0, false), measure.Ahead{Class: 0}, false, 100100}, {api.Fit{Class: 2}, end(0, false), measure.Ahead{Class: 1}, false, 100}, {api.Fit{Class: 2}, end(0, false), measure.Ahead{Class: 3}, false, 100},
		{api.Fit{Class: 3}, end(0, false), measure.Ahead{Class: 0}, false, 100100}, {api.Fit{Class: 3}, end(0, false), measure.Ahead{Class: 1}, false, 100100}, {api.Fit{Class: 3}, end(0, false), measure.Ahead{Class: 2}, false, 100}, {api.Fit{Class: 3}, end(0, false), measure.Ahead{Class: 3}, false, 100},
		// No line ahead: no class to be apart from.
		{api.Fit{Class: 3}, end(0, false), none, false, 100}, {api.Fit{Class: 3}, end(0, false), measure.Ahead{Class: -2}, false, 100}, {api.Fit{Class: 3}, end(0, false), measure.Ahead{Class: math.MinInt}, false, 100},
		// Flag on neither side, on one, on the other, on both.
		{decent, end(0, true), none, false, 225}, {decent, end(0, true), measure.Ahead{Class: 1}, false, 225}, {decent, end(0, false), measure.Ahead{Class: 1, Flag: true}, false, 225}, {decent, end(0, true), measure.Ahead{Class: 1, Flag: true}, false, 200225},
		// The last line, with Flag ahead of it and without.
		{decent, end(-10000, false), measure.Ahead{Class: 1}, true, 225}, {decent, end(-10000, false), measure.Ahead{Class: 1, Flag: true}, true, 400225}, {decent, end(-10000, true), measure.Ahead{Class: 1}, true, 225},
		// Several, and all.
		{decent, end(0, true), measure.Ahead{Class: 1, Flag: true}, true, 600225}, {decent, end(0, false), measure.Ahead{Class: 3, Flag: true}, true, 500225}, {decent, end(0, true), measure.Ahead{Class: 3, Flag: true}, false, 300225}, {decent, end(50, true), measure.Ahead{Class: 3, Flag: true}, true, 702725},
		// What is taken off never takes off what settings add.
		{decent, end(-9999, true), measure.Ahead{Class: 3, Flag: true}, true, 700000},
		// Flag counts also where the class says that there is no line ahead: the sentences ask for ahead.Flag alone.
		{decent, end(0, true), measure.Ahead{Class: -1, Flag: true}, true, 600225},
	} {
		if got := measure.Cost(unlikes(), c.f, c.end, c.ahead, c.last); got != c.want {
			t.Errorf("Cost(%v, %v, %v, %v): %d, not %d", c.f, c.end, c.ahead, c.last, got, c.want)
		}
		if model := cost(unlikes(), c.f, c.end, c.ahead, c.last); model != c.want {
			t.Errorf("the sentence says of %v, %v, %v, %v: %d, not %d", c.f, c.end, c.ahead, c.last, model, c.want)
		}
	}
	// What else a Fit, an item and settings have doesn't count.
	s := unlikes()
	s.Tolerance, s.Orphans, s.Widows = 0, 1, 1
	other := api.Item{Kind: api.Glue, Width: 9, Stretch: 8, Shrink: 7, Fill: true, Cost: 50, From: 3, To: 4}
	if got := measure.Cost(s, api.Fit{Num: 4, Den: 9, Bad: 5, Class: 1}, other, none, false); got != 2725 {
		t.Errorf("Cost with other fields: %d", got)
	}
}

// P8.5: at Awful, just below it, and beyond.
func TestCostAwful(t *testing.T) {
	const awful = 1 << 50
	for _, c := range []struct{ line, bad, more, want int }{
		{1 << 25, 0, 0, awful}, {1 << 24, 1 << 24, 0, awful}, {1<<25 - 1, 0, 0, (1<<25 - 1) * (1<<25 - 1)}, {1<<25 + 1, 0, 0, awful}, {1 << 30, 1 << 30, 0, awful}, {math.MaxInt, math.MaxInt, math.MaxInt, awful},
		{1<<25 - 1, 0, 1<<26 - 2, awful - 1}, {1<<25 - 1, 0, 1<<26 - 1, awful}, {1<<25 - 1, 0, 1 << 26, awful},
		{1 << 25, 0, -1, awful - 1}, {1 << 25, 0, 1, awful},
		// Bounded once all is together, not ahead of it: the sentence has it at its end.
		{1<<25 + 1, 0, -1 << 26, awful}, {1<<25 + 1, 0, -1<<26 - 1, awful}, {1<<25 + 1, 0, -1<<26 - 2, awful - 1},
	} {
		s := api.Settings{Line: c.line, Adjacent: c.more}
		f, ahead := api.Fit{Bad: c.bad, Class: 3}, measure.Ahead{Class: 0}
		if got := measure.Cost(s, f, api.Item{}, ahead, false); got != c.want || got != cost(s, f, api.Item{}, ahead, false) {
			t.Errorf("Cost of %d, %d and %d: %d, not %d", c.line, c.bad, c.more, got, c.want)
		}
	}
	s := api.Settings{Line: 1<<25 + 1, Double: -1<<26 - 2}
	if got := measure.Cost(s, api.Fit{}, api.Item{Flag: true}, measure.Ahead{Class: -1, Flag: true}, false); got != awful-1 {
		t.Errorf("Cost of what is taken off again: %d", got)
	}
}

// P8.5: numbers that are no classes are held against each other exactly.
func TestCostClasses(t *testing.T) {
	numbers := []int{math.MinInt, math.MinInt + 1, -2, -1, 0, 1, 2, 3, 4, 1 << 60, 1<<60 + 1, 1<<60 + 2, math.MaxInt - 2, math.MaxInt - 1, math.MaxInt}
	for _, class := range numbers {
		for _, ahead := range numbers {
			f, a := api.Fit{Class: class}, measure.Ahead{Class: ahead}
			if got, want := measure.Cost(unlikes(), f, api.Item{}, a, false), cost(unlikes(), f, api.Item{}, a, false); got != want {
				t.Errorf("Cost of the classes %d and %d: %d, not %d", class, ahead, got, want)
			}
		}
	}
}

// P8.5: Total at Awful, below it and beyond.
func TestTotal(t *testing.T) {
	const awful = 1 << 50
	for _, c := range []struct{ a, b, want int }{
		{0, 0, 0}, {3, 4, 7}, {100, 0, 100}, {awful, 0, awful}, {0, awful, awful}, {awful - 1, 0, awful - 1}, {awful - 1, 1, awful}, {awful - 1, 2, awful}, {awful - 5, 4, awful - 1}, {awful, awful, awful},
		{1 << 49, 1 << 49, awful}, {1 << 49, 1<<49 - 1, awful - 1}, {math.MaxInt, math.MaxInt, awful}, {math.MaxInt, 1, awful},
		// Below 0, by scaled.Add: no bound but its own there.
		{-3, 1, -2}, {awful + 5, -6, awful - 1}, {-awful, -awful, -2 * awful}, {math.MinInt, math.MinInt, -1 << 60}, {math.MinInt, math.MaxInt, 0}, {math.MaxInt, -1 << 60, 0},
	} {
		if got := measure.Total(c.a, c.b); got != c.want {
			t.Errorf("Total(%d, %d): %d, not %d", c.a, c.b, got, c.want)
		}
	}
}

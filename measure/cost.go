package measure

import (
	"reglet/api"
	"reglet/scaled"
)

// mostTogether is the most lines that settings may ask for to stay together.
const mostTogether = 100

// Check: may settings be?
func Check(s api.Settings) api.Errno {
	costs := within(s.Tolerance, 0, api.MaxCost) && within(s.Line, 0, api.MaxCost)
	demerits := within(s.Adjacent, 0, api.MaxDemerits) && within(s.Double, 0, api.MaxDemerits) && within(s.Last, 0, api.MaxDemerits)
	together := within(s.Orphans, 1, mostTogether) && within(s.Widows, 1, mostTogether)
	if !costs || !demerits || !together {
		return api.ErrSettings
	}
	return api.OK
}

// within: is a number from least to most?
func within(n, least, most int) bool { return least <= n && n <= most }

// Ahead is what a line has ahead of it: a class (-1: it is the first one), and whether the break there is a flag.
type Ahead struct {
	Class int
	Flag  bool
}

// Cost: of a line that is set so, that ends at an item, with a line ahead of it; last: no line comes behind it.
func Cost(s api.Settings, f api.Fit, end api.Item, ahead Ahead, last bool) int {
	if f.Over {
		return api.Awful
	}
	total := scaled.Demerits(s.Line, f.Bad, end.Cost)
	if ahead.Class >= 0 && unlike(ahead.Class, f.Class) {
		total = scaled.Add(total, s.Adjacent)
	}
	if ahead.Flag && end.Flag {
		total = scaled.Add(total, s.Double)
	}
	if ahead.Flag && last {
		total = scaled.Add(total, s.Last)
	}
	return min(total, api.Awful)
}

// unlike: are two classes more than 1 apart?
func unlike(a, b int) bool {
	// Without a sign the difference has room, also of numbers that are no classes.
	return uint(max(a, b))-uint(min(a, b)) > 1
}

// Total: two costs together, at most Awful.
func Total(a, b int) int { return min(scaled.Add(a, b), api.Awful) }

// Usual: settings that do for most.
func Usual() api.Settings {
	return api.Settings{Tolerance: 200, Line: 10, Adjacent: 10000, Double: 10000, Last: 5000, Orphans: 2, Widows: 2}
}

package measure

import (
	"reglet/api"
	"reglet/scaled"
)

// The greatest badness of lines that look decent, and loose.
const (
	mostDecent = 12
	mostLoose  = 99
)

// Set: how a line's glue is set for a width.
func Set(s Sum, width int) api.Fit {
	short := scaled.Sub(width, s.Width)
	switch {
	case short == 0 || short > 0 && s.Fills > 0:
		return api.Fit{Den: 1, Class: api.Decent}
	case short > 0:
		return stretched(short, s.Stretch)
	}
	return shrunk(-short, s.Shrink)
}

// stretched: a line that lacks so much, above 0, and that nothing fills.
func stretched(lack, stretch int) api.Fit {
	if stretch == 0 {
		return api.Fit{Den: 1, Bad: scaled.Worst, Class: api.VeryLoose}
	}
	num, den := scaled.Lowest(lack, stretch)
	bad := scaled.Bad(lack, stretch)
	return api.Fit{Num: num, Den: den, Bad: bad, Class: loose(bad)}
}

// loose: the class of a stretched line.
func loose(bad int) int {
	switch {
	case bad > mostLoose:
		return api.VeryLoose
	case bad > mostDecent:
		return api.Loose
	}
	return api.Decent
}

// shrunk: a line that is too wide by so much, above 0.
func shrunk(excess, shrink int) api.Fit {
	if excess > shrink {
		return over(shrink)
	}
	num, den := scaled.Lowest(-excess, shrink)
	bad := scaled.Bad(excess, shrink)
	return api.Fit{Num: num, Den: den, Bad: bad, Class: tight(bad)}
}

// tight: the class of a shrunk line.
func tight(bad int) int {
	if bad > mostDecent {
		return api.Tight
	}
	return api.Decent
}

// over: a line that is too wide even with all of its shrink taken.
func over(shrink int) api.Fit {
	f := api.Fit{Num: -1, Den: 1, Bad: scaled.Worst, Class: api.Tight, Over: true}
	if shrink == 0 {
		f.Num = 0
	}
	return f
}

// Fit: of the line from behind a break up to another one.
func (p *Para) Fit(a, b, width int) api.Fit { return Set(p.Line(a, b), width) }

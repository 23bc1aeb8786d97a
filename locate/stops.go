package locate

import (
	"reglet/api"
	"reglet/metrics"
	"reglet/runes"
	"reglet/scaled"
)

// Stop is a place between a line's runes: how many bytes ahead of it, and how far from the left.
type Stop struct {
	At int
	X  int
}

// Stops: the places ahead of each rune of a line, and behind the last one (one alone, if it has none). Spaces behind all that is seen have no width.
func Stops(t *metrics.Table, l api.Line) []Stop {
	stops := make([]Stop, 0, runes.Count(l.Text)+1)
	styleAt, last, x := along(l.Runs), lastSeen(l.Text), 0
	for at, r := range l.Text {
		stops = append(stops, Stop{At: at, X: x})
		x = scaled.Add(x, width(t, l, styleAt(at), r, at < last))
	}
	return append(stops, Stop{At: len(l.Text), X: x})
}

// width: of a rune of a line; within: something seen is behind it.
func width(t *metrics.Table, l api.Line, style int, r rune, within bool) int {
	switch {
	case runes.Kind(r) != runes.Space:
		return t.Width(style, r)
	case within:
		return glue(t, l, style)
	}
	return 0
}

// glue: how wide a space of a style is, set as the line's glue is.
func glue(t *metrics.Table, l api.Line, style int) int {
	space, stretch, shrink := t.Space(style)
	switch {
	case l.Num > 0:
		return scaled.Add(space, scaled.Scale(stretch, l.Num, l.Den))
	case l.Num < 0:
		return scaled.Add(space, scaled.Scale(shrink, l.Num, l.Den))
	}
	return space
}

// along tells the style of one byte after the other, by runs; the bytes that it is asked for must not fall.
func along(list []api.Run) func(at int) int {
	begin := 0 // of the run under way
	return func(at int) int {
		// Never told by where a run ends: its Len may be so great that there is no such number.
		for len(list) > 0 && list[0].Len <= at-begin {
			begin += max(list[0].Len, 0)
			list = list[1:]
		}
		if len(list) == 0 {
			return 0
		}
		return list[0].Style
	}
}

// lastSeen: where the last rune of a text begins that is seen; -1: none is.
func lastSeen(s string) int {
	last := -1
	for at, r := range s {
		switch runes.Kind(r) {
		case runes.Letter, runes.Fast, runes.Hyphen:
			last = at
		}
	}
	return last
}

// Width: how wide what is seen of a line is, with its hyphen.
func Width(t *metrics.Table, l api.Line) int {
	stops := Stops(t, l)
	wide := stops[len(stops)-1].X
	if l.Hyphen {
		wide = scaled.Add(wide, t.Hyphen(lastStyle(l.Runs)))
	}
	return wide
}

// lastStyle: of the last run that isn't empty; 0: there is none.
func lastStyle(list []api.Run) int {
	for k := len(list) - 1; k >= 0; k-- {
		if list[k].Len > 0 {
			return list[k].Style
		}
	}
	return 0
}

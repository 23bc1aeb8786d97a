package locate

import (
	"cmp"
	"slices"

	"reglet/api"
	"reglet/metrics"
)

// Spot: where a byte stands. ErrOffset: there is none; ErrInside: it lies within a rune.
func Spot(t *metrics.Table, list []api.Page, at int) (api.Spot, api.Errno) {
	page, line, ahead, ok := Line(list, at)
	if !ok {
		return api.Spot{}, api.ErrOffset
	}
	stops := Stops(t, list[page].Lines[line])
	k, ok := slices.BinarySearchFunc(stops, ahead, func(s Stop, at int) int { return cmp.Compare(s.At, at) })
	if !ok { // each place between runes has its Stop
		return api.Spot{}, api.ErrInside
	}
	return api.Spot{Page: page, Line: line, X: stops[k].X}, api.OK
}

// Hit: the byte at a spot: ahead of the first rune of that line that ends to the right of it; if there is none, behind the last one that is seen. A page or a line beyond the last one is the last one, one ahead of the first one the first one.
func Hit(t *metrics.Table, list []api.Page, s api.Spot) (int, api.Errno) {
	if len(list) == 0 {
		return 0, api.ErrOffset
	}
	page := nearest(s.Page, len(list))
	rows := list[page].Lines
	if len(rows) == 0 {
		return 0, api.ErrOffset
	}
	line := nearest(s.Line, len(rows))
	ahead, _ := Offset(list, page, line)
	return ahead + under(t, rows[line], s.X), api.OK
}

// nearest: of so many, numbered from 0 on, the one whose number is nearest to n.
func nearest(n, many int) int { return min(max(n, 0), many-1) }

// under: the place of a line that is hit so far from its left.
func under(t *metrics.Table, l api.Line, x int) int {
	stops := Stops(t, l)
	// One by one: where spaces are shrunk to less than nothing, X doesn't rise.
	for k, behind := range stops[1:] {
		if behind.X > x {
			return stops[k].At
		}
	}
	last := lastSeen(l.Text)
	// The first Stop behind the beginning of what is seen last; the line's own beginning, if that is nothing.
	k := slices.IndexFunc(stops, func(s Stop) bool { return s.At > last })
	return stops[k].At
}

package breaks

import (
	"reglet/api"
	"reglet/items"
	"reglet/measure"
)

// A line is hopeless, if nothing fills it, and five times its stretch leaves it too short: then it is as bad as may be, wherever it ends. Where lines are far wider than all of a paragraph, nearly every pair of its breaks makes one. So they aren't looked at one by one: for a tolerance below the greatest none of them does; for that one the cheapest of them is kept at hand.

// hopeless: the cheapest hopeless line behind a break; of several the one that ends first.
func (s *search) hopeless(n int, c *choice) {
	s.enter(n + 1)
	for s.near > n+1 && !s.short(n, s.near-1) {
		s.near--
	}
	s.plain.leave(s.near)
	s.flagged.leave(s.near)
	if s.item(n).Flag {
		c.take(s.flagged.least())
	} else {
		c.take(s.plain.least())
	}
}

// enter: lines may end at this break, too.
func (s *search) enter(end int) {
	if items.Forced(s.item(end)) {
		s.bound, s.near = end+1, end+1
	}
	if s.set.Tolerance == api.MaxCost {
		s.plain.add(s.worst(end, false))
		s.flagged.add(s.worst(end, true))
	}
}

// worst: a hopeless line that ends at a break, and begins behind one with Flag or without it.
func (s *search) worst(end int, flag bool) line {
	fit := api.Fit{Bad: api.MaxCost, Class: api.VeryLoose}
	return line{end: end, fit: fit, cost: s.cost(fit, end, measure.Ahead{Class: -1, Flag: flag})}
}

// short: is the line from behind a break up to another one hopeless? A longer one may not be, nor may one that begins earlier.
func (s *search) short(from, to int) bool {
	_, high, fills := s.p.Bounds(s.p.End(from), s.p.End(to))
	return !fills && high < s.width
}

// window is of lines that came in, each with an earlier end than the one ahead of it, those that may yet become the cheapest one: no later one is as cheap. They get dearer from the first to the last.
type window struct {
	list []line
}

// add: a line comes in, with an earlier end than all others.
func (w *window) add(x line) {
	k := len(w.list)
	for k > 0 && w.list[k-1].cost >= x.cost {
		k--
	}
	w.list = append(w.list[:k], x)
}

// leave: the lines that end at a break or behind it go out.
func (w *window) leave(end int) {
	for len(w.list) > 0 && w.list[0].end >= end {
		w.list = w.list[1:]
	}
}

// least: the cheapest line; of several the one that ends first. One that costs Awful, if there is none.
func (w *window) least() line {
	if len(w.list) == 0 {
		return line{cost: api.Awful}
	}
	return w.list[0]
}

package breaks

import (
	"reglet/api"
	"reglet/measure"
)

// classes is how many classes of lines there are.
const classes = api.VeryLoose + 1

// rest is what the cheapest lines behind a break cost together, and the number of the break at which the first of them ends. Awful: there are none.
type rest struct {
	cost, next int
}

// line is one behind a break: the number of the break at which it ends, how its glue is set, and what it costs with all behind it, as if none were ahead of it.
type line struct {
	end  int
	fit  api.Fit
	cost int
}

// choice is the cheapest line of each class; of several the one that ends first.
type choice [classes]line

// search is a paragraph whose breaks are gone through from the last one on to the beginning, since of ways that cost as much the one with the least first break is asked for. Breaks have their numbers as measure.End takes them; -1 is the beginning.
type search struct {
	p     *measure.Para
	width int
	set   api.Settings
	rests [][classes]rest // for each break: by the class of the line that ends there
	bound int             // lines behind the break that is looked at end ahead of this one: none goes on behind a Forced item
	near  int             // those of them that end ahead of this one are hopeless
	// The hopeless ones, as they are behind a break without Flag, and behind one with it.
	plain, flagged window
}

// cheapestWay: the one that costs least of those whose lines aren't Over and keep to the tolerance; false, if there is none.
func cheapestWay(p *measure.Para, width int, set api.Settings) (api.Breaking, bool) {
	s := &search{p: p, width: width, set: set, rests: make([][classes]rest, p.Ends())}
	for n := s.last() - 1; n >= 0; n-- {
		c := s.lines(n)
		for class := range s.rests[n] {
			s.rests[n][class] = s.cheapest(c, s.ahead(n, class))
		}
	}
	first := s.cheapest(s.lines(-1), s.ahead(-1, -1))
	if first.cost == api.Awful {
		return api.Breaking{}, false
	}
	return s.way(first), true
}

// way: the breaks from the beginning on.
func (s *search) way(first rest) api.Breaking {
	b := api.Breaking{Total: first.cost}
	from, to := -1, first.next
step:
	b.Breaks = append(b.Breaks, s.p.End(to))
	if to != s.last() {
		from, to = to, s.rests[to][s.fit(from, to).Class].next
		goto step
	}
	return b
}

// last: the number of the last break.
func (s *search) last() int { return s.p.Ends() - 1 }

// item: the one at a break.
func (s *search) item(n int) api.Item { return s.p.Item(s.p.End(n)) }

// fit: how the line from behind a break up to another one is set.
func (s *search) fit(from, to int) api.Fit { return s.p.Fit(s.p.End(from), s.p.End(to), s.width) }

// ahead: what a line behind a break has ahead of it.
func (s *search) ahead(n, class int) measure.Ahead {
	return measure.Ahead{Class: class, Flag: s.item(n).Flag}
}

// cost: of a line that is set so and ends at a break, with all behind it.
func (s *search) cost(fit api.Fit, end int, ahead measure.Ahead) int {
	return measure.Total(measure.Cost(s.set, fit, s.item(end), ahead, end == s.last()), s.rests[end][fit.Class].cost)
}

// cheapest: of the lines of a choice the one that costs least behind this line; of several the one that ends first.
func (s *search) cheapest(c choice, ahead measure.Ahead) rest {
	best := rest{cost: api.Awful}
	for _, x := range c {
		if x.cost == api.Awful {
			continue
		}
		if cost := s.cost(x.fit, x.end, ahead); cost < best.cost || cost == best.cost && x.end < best.next {
			best = rest{cost: cost, next: x.end}
		}
	}
	return best
}

// lines: the cheapest ones behind a break.
func (s *search) lines(n int) choice {
	c := none()
	s.hopeless(n, &c)
	s.hopeful(n, &c)
	return c
}

// none: no line of any class.
func none() choice {
	var c choice
	for k := range c {
		c[k].cost = api.Awful
	}
	return c
}

// take: a line that does, that ends behind those of a choice.
func (c *choice) take(x line) {
	if x.cost < c[x.fit.Class].cost {
		c[x.fit.Class] = x
	}
}

// hopeful: the lines behind a break whose glue may be set well.
func (s *search) hopeful(n int, c *choice) {
	ahead := s.ahead(n, -1)
lines:
	for end := s.near; end < s.bound; end++ {
		fit := s.fit(n, end)
		switch {
		case s.narrowest(n, end) > s.width:
			break lines // longer ones are Over, too
		case fit.Over || fit.Bad > s.set.Tolerance:
			continue lines
		}
		c.take(line{end: end, fit: fit, cost: s.cost(fit, end, ahead)})
	}
}

// narrowest: how narrow the line from behind a break up to another one can be.
func (s *search) narrowest(from, to int) int {
	low, _, _ := s.p.Bounds(s.p.End(from), s.p.End(to))
	return low
}

package measure

import "reglet/api"

// stretches is how many times its stretch makes a line as bad as may be: 100 times the third power of it is above scaled.Worst.
const stretches = 5

// Sum is what a line's items come to.
type Sum struct {
	Width   int
	Stretch int
	Shrink  int
	Fills   int
}

// and: a sum and one more item that no line ends at. All items that there may be come to 2^54 at most: nothing wraps round.
func (s Sum) and(x api.Item) Sum {
	if x.Kind != api.Penalty {
		s.Width += x.Width
	}
	s.Stretch += x.Stretch
	s.Shrink += x.Shrink
	if x.Fill {
		s.Fills++
	}
	return s
}

// less: a sum without another one that it begins with.
func (s Sum) less(head Sum) Sum {
	return Sum{
		Width:   s.Width - head.Width,
		Stretch: s.Stretch - head.Stretch,
		Shrink:  s.Shrink - head.Shrink,
		Fills:   s.Fills - head.Fills,
	}
}

// added: how much wider a line is for ending at an item.
func added(x api.Item) int {
	if x.Kind == api.Penalty {
		return x.Width
	}
	return 0
}

// Start: the first item of the line behind a break (-1: the first line).
func (p *Para) Start(a int) int {
	if a < 0 {
		return 0
	}
	if !p.has(a) {
		return p.Items()
	}
	return p.starts[a]
}

// Line: what the items of the line from behind a break up to another one come to; with what a break adds there.
func (p *Para) Line(a, b int) Sum {
	s := p.upTo(a, b)
	s.Width += added(p.Item(b))
	return s
}

// upTo: what the items of the line from behind a break up to another one come to, without what a break adds there.
func (p *Para) upTo(a, b int) Sum {
	from := p.Start(a)
	if !p.has(b) || from >= b {
		return Sum{}
	}
	return p.sums[b].less(p.sums[from])
}

// Bounds: how narrow the line from behind a break up to another one can be, and how wide at most if its glue is stretched five times, whatever a break there adds: neither falls for a later one. true: it fills any width.
func (p *Para) Bounds(a, b int) (int, int, bool) {
	s := p.upTo(a, b)
	return s.Width - s.Shrink, s.Width + stretches*s.Stretch + p.widest, s.Fills > 0
}

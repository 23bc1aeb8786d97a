package search

import "unicode/utf8"

// open: the takers that take a rune.
func (p *Pattern) open(c rune) set {
	var open set
	for k, t := range p.takers {
		if t.takes(c) {
			open = open.or(single(k))
		}
	}
	return open
}

// seek: what the pattern takes first from a place on, or, unless anywhere, at that place alone; and of that the most. false: there is none.
func (p *Pattern) seek(s string, at int, anywhere bool) (from, to int, ok bool) {
	if p == nil {
		return 0, 0, false
	}
	w := walk{net: p.forward}
	for here := at; ; {
		if !ok && (anywhere || here == at) {
			w.begin(here)
		}
		if begun, ended := w.ended(); ended {
			from, to, ok = begun, here, true
			w.only(begun)
		}
		if here == len(s) || len(w.threads) == 0 {
			return from, to, ok
		}
		c, size := utf8.DecodeRuneInString(s[here:])
		w.step(p.open(c))
		here += size
	}
}

// ends: of each place between runes where the most ends that the pattern takes there; -1: it takes none. It goes once from the right to the left, so that many ways that end nowhere cost no more than one.
func (p *Pattern) ends(s string) []int {
	ends := make([]int, len(s)+1)
	w := walk{net: p.back}
	for here := len(s); ; {
		w.begin(here)
		ends[here] = -1
		if end, ended := w.ended(); ended {
			ends[here] = end
		}
		if here == 0 {
			return ends
		}
		c, size := utf8.DecodeLastRuneInString(s[:here])
		w.step(p.open(c))
		here -= size
	}
}

// behindNext: the place behind the rune at a place; beyond the text, if there is none.
func behindNext(s string, at int) int {
	_, size := utf8.DecodeRuneInString(s[at:])
	return at + max(size, 1)
}

package search

import "slices"

// span is the runes from one to another.
type span struct{ from, to rune }

// taker is what takes one rune: a rune, a point or a class of the pattern.
type taker struct {
	spans  []span
	others bool // it takes all runes but those of the spans
}

func (t taker) takes(c rune) bool {
	for _, x := range t.spans {
		if c >= x.from && c <= x.to {
			return !t.others
		}
	}
	return t.others
}

// net is in which order takers take runes, going one way: which may be the first, which the last, whether there may be none, and which may come behind each.
type net struct {
	first, last set
	empty       bool
	next        []set
}

// mirrored: the same, going the other way.
func (n net) mirrored() net {
	next := make([]set, len(n.next))
	for k := range n.next {
		for behind := range n.next[k].each() {
			next[behind] = next[behind].or(single(k))
		}
	}
	return net{n.last, n.first, n.empty, next}
}

// none stands for a taker where none has taken a rune yet.
const none = -1

// thread is a way to take something, as far as it has come: the place where it began, and which taker took the rune before.
type thread struct{ begun, taker int }

// walk is going along a text by a net, on all threads at once.
type walk struct {
	net
	threads []thread // in the order in which they began
	room    []thread
}

// begin: one more thread.
func (w *walk) begin(at int) {
	w.threads = append(w.threads, thread{at, none})
}

// step goes behind one more rune, that some takers take. Where threads meet, the first one goes on alone: whatever could come of the others comes of it, too.
func (w *walk) step(open set) {
	after := w.room[:0]
	for _, t := range w.threads {
		took := w.behind(t).and(open)
		open = open.without(took)
		for k := range took.each() {
			after = append(after, thread{t.begun, k})
		}
	}
	w.threads, w.room = after, w.threads
}

// behind: which takers may take the next rune of a thread.
func (w *walk) behind(t thread) set {
	if t.taker == none {
		return w.first
	}
	return w.next[t.taker]
}

// ended: where the first thread began that may end here; false: none may.
func (w *walk) ended() (int, bool) {
	for _, t := range w.threads {
		if t.taker == none && w.empty || t.taker != none && w.last.has(t.taker) {
			return t.begun, true
		}
	}
	return 0, false
}

// only leaves the threads up to those that began at a place.
func (w *walk) only(begun int) {
	w.threads = slices.DeleteFunc(w.threads, func(t thread) bool { return t.begun > begun })
}

package search

import (
	"reglet/runes"
)

const (
	lineEnd = '\n'
	stroke  = '\\'
	deepest = 20 // brackets within one another
)

// fault is thrown where a pattern can't be read on: the place of what is wrong.
type fault struct{ at int }

// part is some of a pattern: which of its takers may take the first rune, which the last one, whether it takes nothing, too, and how many states it needs.
type part struct {
	first, last set
	empty       bool
	states      int
}

// either: what one of two parts takes.
func either(a, b part) part {
	return part{a.first.or(b.first), a.last.or(b.last), a.empty || b.empty, a.states + b.states + 1}
}

// reader goes along a pattern's text, and keeps what it has come by: the takers, and which may come behind each.
type reader struct {
	text   string
	at     int
	deep   int
	takers []taker
	next   []set
}

// ahead: is the next byte this one?
func (r *reader) ahead(c byte) bool { return r.at < len(r.text) && r.text[r.at] == c }

// whole: all of the pattern.
func (r *reader) whole() part {
	all := r.choices()
	if r.at < len(r.text) { // choices end ahead of a bracket alone
		panic(fault{r.at})
	}
	return all
}

func (r *reader) choices() part {
	all := r.row()
	for r.ahead('|') {
		r.at++
		all = either(all, r.row())
	}
	return all
}

func (r *reader) row() part {
	all := part{empty: true}
	for r.at < len(r.text) && !r.ahead('|') && !r.ahead(')') {
		all = r.join(all, r.signed(r.atom()))
	}
	return all
}

// join: what one part takes, and behind it what another one takes.
func (r *reader) join(a, b part) part {
	r.follow(a.last, b.first)
	all := part{a.first, b.last, a.empty && b.empty, a.states + b.states}
	if a.empty {
		all.first = a.first.or(b.first)
	}
	if b.empty {
		all.last = a.last.or(b.last)
	}
	return all
}

// follow: behind each of some takers each of others may come.
func (r *reader) follow(some, others set) {
	for k := range some.each() {
		r.next[k] = r.next[k].or(others)
	}
}

// signed: a part with the signs that stand behind it.
func (r *reader) signed(x part) part {
	for ; r.at < len(r.text); r.at++ {
		switch r.text[r.at] {
		case '*':
			r.follow(x.last, x.first)
			x.empty, x.states = true, x.states+1
		case '+':
			r.follow(x.last, x.first)
			x.states = 2*min(x.states, MaxStates) + 1 // what is too much already need not be told to the last
		case '?':
			x.empty, x.states = true, x.states+1
		default:
			return x
		}
	}
	return x
}

func (r *reader) atom() part {
	c, size := runes.First(r.text[r.at:])
	switch c {
	case '*', '+', '?', ']', '{', '}':
		panic(fault{r.at})
	case '(':
		return r.brackets()
	case '[':
		return r.class()
	case stroke:
		c = r.escaped()
		return r.taker(span{c, c})
	}
	r.at += size
	if c == '.' {
		return r.others(span{lineEnd, lineEnd})
	}
	return r.taker(span{c, c})
}

// brackets: choices, from their bracket to the one that ends them.
func (r *reader) brackets() part {
	if r.deep == deepest {
		panic(fault{r.at})
	}
	r.deep++
	r.at++
	all := r.choices()
	if !r.ahead(')') {
		panic(fault{r.at})
	}
	r.at++
	r.deep--
	return all
}

// class: a class, from its bracket to the one that ends it.
func (r *reader) class() part {
	begin, end := r.members()
	but := begin > r.at+1 // of ^
	var spans []span
	for r.at = begin; r.at < end; {
		spans = append(spans, r.span(end))
	}
	r.at = end + 1
	if but {
		return r.others(spans...)
	}
	return r.taker(spans...)
}

// members: from where to where a class has its members. It is looked for ahead of them: that a class doesn't end is told at its bracket, which lies ahead of what may be wrong within.
func (r *reader) members() (int, int) {
	begin := r.at + 1
	if begin < len(r.text) && r.text[begin] == '^' {
		begin++
	}
	for at := begin; at < len(r.text); at++ {
		if r.text[at] == stroke {
			at++
		} else if r.text[at] == ']' && at > begin {
			return begin, at
		}
	}
	panic(fault{r.at})
}

// span: a member of a class that ends at a place, or two with a - between.
func (r *reader) span(end int) span {
	from := r.member()
	if !r.ahead('-') || r.at+1 == end {
		return span{from, from}
	}
	between := r.at
	r.at++
	to := r.member()
	if to < from {
		panic(fault{between})
	}
	return span{from, to}
}

func (r *reader) member() rune {
	if r.ahead(stroke) {
		return r.escaped()
	}
	c, size := runes.First(r.text[r.at:])
	r.at += size
	return c
}

// escaped: what a stroke and the rune behind it stand for.
func (r *reader) escaped() rune {
	begin := r.at
	c, size := runes.First(r.text[begin+1:])
	r.at += 1 + size
	switch {
	case c == 'n':
		return lineEnd
	case c == 't':
		return '\t'
	case size == 0 || c >= 'a' && c <= 'z' || c >= 'A' && c <= 'Z' || c >= '0' && c <= '9':
		panic(fault{begin})
	}
	return c
}

// taker: a part that takes a rune of some spans.
func (r *reader) taker(spans ...span) part { return r.keep(taker{spans: spans}) }

// others: a part that takes any rune but those of some spans.
func (r *reader) others(spans ...span) part { return r.keep(taker{spans: spans, others: true}) }

func (r *reader) keep(t taker) part {
	own := single(len(r.takers))
	r.takers = append(r.takers, t)
	r.next = append(r.next, set{})
	return part{first: own, last: own, states: 1}
}

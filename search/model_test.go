package search_test

import (
	"math/rand/v2"
	"regexp"
	"slices"
	"strconv"
	"strings"
	"testing"
	"unicode/utf8"

	"reglet/api"
	"reglet/search"
)

const (
	minInt = -1 << 63
	maxInt = 1<<63 - 1
)

// node is a part of a pattern, as the chapter's section 'What a pattern is' has it.
type node struct {
	kind    byte // 'r' a row, '|' choices, the signs * + ?, else 't': what takes a rune
	kids    []*node
	members [][2]rune // of 't'
	others  bool
}

// What a pattern is made of: a class, a stroke with the rune behind it, any other rune. A [ that begins no class is a rune alone, and so is a stroke that ends the pattern.
var token = regexp.MustCompile(`(?s)\[(?:\^(?:\\.|[^\\])|(?:\\.|[^\\^]))(?:\\.|[^\\\]])*\]|\\.|.`)

// member: one of a class, perhaps with a - and a further one behind it.
var member = regexp.MustCompile(`(?s)(\\.|.)(?:-(\\.|.))?`)

// frame is an open bracket: the rows that were read in it.
type frame struct{ rows []*node }

func (f *frame) row() *node { return f.rows[len(f.rows)-1] }

func (f *frame) add(n *node) { f.row().kids = append(f.row().kids, n) }

// closed: what stands in a bracket, as one.
func (f *frame) closed() *node { return &node{kind: '|', kids: f.rows} }

func newFrame() *frame { return &frame{[]*node{{kind: 'r'}}} }

// plainReader notes all faults of a pattern, wherever they are, and reads on behind each.
type plainReader struct {
	open   []*frame
	begins bool // an atom should begin
	faults []int
}

// readPlain: what a right text is as a pattern, and the places of its faults.
func readPlain(s string) (*node, []int) {
	r := &plainReader{open: []*frame{newFrame()}, begins: true}
	for _, at := range token.FindAllStringIndex(s, -1) {
		r.see(s[at[0]:at[1]], at[0])
	}
	if len(r.open) > 1 {
		r.faults = append(r.faults, len(s))
	}
	return r.open[0].closed(), r.faults
}

func (r *plainReader) see(t string, at int) {
	top := r.open[len(r.open)-1]
	switch {
	case t == "|":
		top.rows = append(top.rows, &node{kind: 'r'})
		r.begins = true
	case t == "(":
		r.open = append(r.open, newFrame())
		if len(r.open) > 21 {
			r.faults = append(r.faults, at)
		}
		r.begins = true
	case t == ")" && len(r.open) == 1, t == "[", t == "]", t == "{", t == "}", t == `\`:
		r.faults = append(r.faults, at)
	case t == ")":
		r.open = r.open[:len(r.open)-1]
		r.open[len(r.open)-1].add(top.closed())
		r.begins = false
	case t == "*" || t == "+" || t == "?":
		r.sign(t[0], at)
	default:
		top.add(r.atom(t, at))
		r.begins = false
	}
}

func (r *plainReader) sign(c byte, at int) {
	if r.begins {
		r.faults = append(r.faults, at)
		return
	}
	row := r.open[len(r.open)-1].row()
	last := len(row.kids) - 1
	row.kids[last] = &node{kind: c, kids: []*node{row.kids[last]}}
}

func (r *plainReader) atom(t string, at int) *node {
	switch {
	case t == ".":
		return &node{kind: 't', members: [][2]rune{{'\n', '\n'}}, others: true}
	case len(t) > 1 && t[0] == '[':
		return r.class(t, at)
	}
	c, ok := stood(t)
	if !ok {
		r.faults = append(r.faults, at)
	}
	return &node{kind: 't', members: [][2]rune{{c, c}}}
}

func (r *plainReader) class(t string, at int) *node {
	n := &node{kind: 't', others: t[1] == '^'}
	begin := 1
	if n.others {
		begin = 2
	}
	for _, m := range member.FindAllStringSubmatchIndex(t[begin:len(t)-1], -1) {
		for k := range m {
			m[k] += begin
		}
		from, ok := stood(t[m[2]:m[3]])
		if !ok {
			r.faults = append(r.faults, at+m[2])
		}
		to, okToo := from, true
		if m[4] >= begin { // there is a further one
			to, okToo = stood(t[m[4]:m[5]])
			if !okToo {
				r.faults = append(r.faults, at+m[4])
			}
		}
		if ok && okToo && to < from {
			r.faults = append(r.faults, at+m[4]-1)
		}
		n.members = append(n.members, [2]rune{from, to})
	}
	return n
}

// stood: the rune that stands for itself, or behind a stroke; false: it may not stand there.
func stood(t string) (rune, bool) {
	list := []rune(t)
	if len(list) == 1 {
		return list[0], true
	}
	switch c := list[1]; {
	case c == 'n':
		return '\n', true
	case c == 't':
		return '\t', true
	default:
		return c, !strings.ContainsRune("abcdefghijklmnopqrstuvwxyzABCDEFGHIJKLMNOPQRSTUVWXYZ0123456789", c)
	}
}

// fault: what New is to answer, by P18.1's sentences.
func fault(s string) (api.Errno, int) {
	if len(s) > 256 {
		return api.ErrLong, 0
	}
	for at, r := range s {
		if _, size := utf8.DecodeRuneInString(s[at:]); r == utf8.RuneError && size == 1 {
			return api.ErrUTF8, at
		}
	}
	n, faults := readPlain(s)
	switch {
	case len(faults) > 0:
		return api.ErrRegex, slices.Min(faults)
	case n.states() > 4096:
		return api.ErrLong, 0
	}
	return api.OK, 0
}

// states: how many a part needs, by the chapter's numbers.
func (n *node) states() int {
	if n.kind == 't' {
		return 1
	}
	sum := 0
	for _, kid := range n.kids {
		sum += kid.states()
	}
	switch n.kind {
	case '|':
		sum += len(n.kids) - 1
	case '*', '?':
		sum++
	case '+':
		sum = 2*sum + 1
	}
	return min(sum, 1<<20)
}

func (n *node) takes(r rune) bool {
	in := slices.ContainsFunc(n.members, func(m [2]rune) bool { return r >= m[0] && r <= m[1] })
	return in != n.others
}

// places is a set of places in a text.
type places map[int]bool

// from: where what the part takes may end, if it begins at one of some places.
func (n *node) from(s string, at places) places {
	to := places{}
	switch n.kind {
	case 't':
		for k := range at {
			if r, size := utf8.DecodeRuneInString(s[k:]); size > 0 && n.takes(r) {
				to[k+size] = true
			}
		}
	case '|':
		for _, kid := range n.kids {
			to.add(kid.from(s, at))
		}
	case 'r':
		to = at
		for _, kid := range n.kids {
			to = kid.from(s, to)
		}
	case '?':
		to.add(at)
		to.add(n.kids[0].from(s, at))
	case '*', '+':
		if n.kind == '*' {
			to.add(at)
		}
		for more := at; len(more) > 0; {
			more = to.add(n.kids[0].from(s, more))
		}
	}
	return to
}

// add: more places; those of them that are new.
func (p places) add(more places) places {
	fresh := places{}
	for k := range more {
		if !p[k] {
			p[k], fresh[k] = true, true
		}
	}
	return fresh
}

// longest: by the chapter's own way: of all that may be taken the most.
func (n *node) longest(s string) int {
	most := -1
	for k := range n.from(s, places{0: true}) {
		most = max(most, k)
	}
	return most
}

// between: the places between a text's runes.
func between(s string) []int {
	var list []int
	for at := range s {
		list = append(list, at)
	}
	return append(list, len(s))
}

func (n *node) find(s string, from int) (int, int, bool) {
	list := between(s)
	if from > 0 && !slices.Contains(list, from) {
		return 0, 0, false
	}
	for _, at := range list {
		if at >= from {
			if most := n.longest(s[at:]); most >= 0 {
				return at, at + most, true
			}
		}
	}
	return 0, 0, false
}

// all: by find again and again, as P18.3 has it.
func (n *node) all(s string) [][2]int {
	var list [][2]int
	for at := 0; ; {
		from, to, ok := n.find(s, at)
		if !ok {
			return list
		}
		list = append(list, [2]int{from, to})
		at = to
		if to == from {
			if to == len(s) {
				return list
			}
			_, size := utf8.DecodeRuneInString(s[to:])
			at += size
		}
	}
}

// replaced: the edits, by all.
func (n *node) replaced(s, by string) []api.Edit {
	var edits []api.Edit
	for _, x := range n.all(s) {
		edits = append(edits, api.Edit{From: x[0], To: x[1], Text: by})
	}
	return edits
}

// library: the part as the library's package regexp writes it.
func (n *node) library() string {
	var list []string
	for _, kid := range n.kids {
		list = append(list, "(?:"+kid.library()+")")
	}
	switch n.kind {
	case 'r':
		return strings.Join(list, "")
	case '|':
		return strings.Join(list, "|")
	case 't':
		return n.libraryClass()
	}
	return list[0] + string(n.kind)
}

func (n *node) libraryClass() string {
	out := "["
	if n.others {
		out = "[^"
	}
	for _, m := range n.members {
		out += `\x{` + strconv.FormatInt(int64(m[0]), 16) + `}-\x{` + strconv.FormatInt(int64(m[1]), 16) + `}`
	}
	return out + "]"
}

// both is a pattern and the plain one that it is held against.
type both struct {
	pattern *search.Pattern
	plain   *node
	text    string
}

func made(t testing.TB, s string) both {
	t.Helper()
	p, e, at := search.New(s)
	if p == nil || e != api.OK || at != 0 {
		t.Fatalf("New(%q): %v, %d, %d", s, p, e, at)
	}
	if n := p.String(); n != s {
		t.Fatalf("String of %q: %q", s, n)
	}
	n, faults := readPlain(s)
	if len(faults) > 0 {
		t.Fatalf("by the plain way %q has faults at %d", s, faults)
	}
	if got, want := p.States(), n.states(); got != want {
		t.Fatalf("States of %q: %d, not %d", s, got, want)
	}
	return both{p, n, s}
}

// agree holds all that is asked of the pattern and a right text against the plain way.
func (x both) agree(t testing.TB, s string) {
	t.Helper()
	want := x.plain.longest(s)
	if got := x.pattern.Longest(s); got != want {
		t.Fatalf("Longest(%q) of %q: %d, not %d", s, x.text, got, want)
	}
	if got := x.pattern.Match(s); got != x.plain.from(s, places{0: true})[len(s)] {
		t.Fatalf("Match(%q) of %q: %v", s, x.text, got)
	}
	for from := -1; from <= len(s)+1; from++ {
		a, b, ok := x.pattern.Find(s, from)
		if wantA, wantB, wantOK := x.plain.find(s, from); a != wantA || b != wantB || ok != wantOK {
			t.Fatalf("Find(%q, %d) of %q: %d, %d, %v, not %d, %d, %v", s, from, x.text, a, b, ok, wantA, wantB, wantOK)
		}
	}
	x.agreeAll(t, s)
}

// agreeAll holds All and Replace against the plain way.
func (x both) agreeAll(t testing.TB, s string) {
	t.Helper()
	all := x.plain.all(s)
	if got := collected(x.pattern, s, -1); !slices.Equal(got, all) {
		t.Fatalf("All(%q) of %q: %d, not %d", s, x.text, got, all)
	}
	stop := 1 + len(s)%3
	if got := collected(x.pattern, s, stop); !slices.Equal(got, all[:min(stop, len(all))]) {
		t.Fatalf("All(%q) of %q, told to stop behind %d: %d, not of %d", s, x.text, stop, got, all)
	}
	for _, by := range []string{"", "xy\u00e9z"} {
		if got, want := x.pattern.Replace(s, by), x.plain.replaced(s, by); !slices.Equal(got, want) {
			t.Fatalf("Replace(%q, %q) of %q: %v, not %v", s, by, x.text, got, want)
		}
	}
}

// collected: what All gives out; told to stop behind so many (-1: never). What comes behind that is kept, too.
func collected(p *search.Pattern, s string, stop int) [][2]int {
	var list [][2]int
	p.All(s)(func(from, to int) bool {
		list = append(list, [2]int{from, to})
		return len(list) != stop
	})
	return list
}

func pick[T any](r *rand.Rand, list ...T) T { return list[r.IntN(len(list))] }

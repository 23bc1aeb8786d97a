package paras

import (
	"slices"
	"strings"
	"testing"

	"reglet/api"
)

const (
	maxInt = int(^uint(0) >> 1)
	minInt = -maxInt - 1
)

type span struct{ begin, end int }

// split: the paragraphs of a text, byte by byte as the chapter's beginning says.
func split(s string) []string {
	var list []string
	begin := 0
	for i := range len(s) {
		if s[i] == '\n' || i == len(s)-1 {
			list = append(list, s[begin:i+1])
			begin = i + 1
		}
	}
	return list
}

func isOpen(s string) bool {
	return s != "" && !strings.HasSuffix(s, "\n")
}

// owners: each byte's paragraph.
func owners(s string) []int {
	var list []int
	for p, para := range split(s) {
		list = append(list, slices.Repeat([]int{p}, len(para))...)
	}
	return list
}

func spansOf(s string) []span {
	var list []span
	at := 0
	for _, para := range split(s) {
		list = append(list, span{at, at + len(para)})
		at += len(para)
	}
	return list
}

// insert: P6.2's sentences, gone through one by one; the text that is left, and what is answered.
func insert(text string, at int, s string) (string, api.Interval, api.Errno) {
	switch {
	case at < 0, at > len(text):
		return text, api.Interval{}, api.ErrOffset
	case s == "":
		return text, api.Interval{}, api.OK
	case len(text)+len(s) > 65536:
		return text, api.Interval{}, api.ErrSize
	}
	count := len(split(text))
	left := text[:at] + s + text[at:]
	i := api.Interval{First: count}
	switch {
	case at < len(text):
		i.First, i.Old = owners(text)[at], 1
	case isOpen(text):
		i.First, i.Old = count-1, 1
	}
	i.New = len(split(left)) - count + i.Old
	return left, i, api.OK
}

func partFault(text string, from, to int) api.Errno {
	if from < 0 || to > len(text) || from > to {
		return api.ErrOffset
	}
	return api.OK
}

// remove: P6.3's sentences, gone through one by one.
func remove(text string, from, to int) (string, api.Interval, api.Errno) {
	if err := partFault(text, from, to); err != api.OK || from == to {
		return text, api.Interval{}, err
	}
	list, of := split(text), owners(text)
	first, last := of[from], of[to-1]
	loses := text[to-1] == '\n'
	keeps := from > slices.Index(of, first)
	if loses && keeps && last+1 < len(list) {
		last++
	}
	i := api.Interval{First: first, Old: last - first + 1}
	for at, p := range of {
		if first <= p && p <= last && (at < from || at >= to) {
			i.New = 1
		}
	}
	return text[:from] + text[to:], i, api.OK
}

// over: P6.4's sentences, gone through one by one.
func over(text string, from, to int) (api.Interval, api.Errno) {
	if err := partFault(text, from, to); err != api.OK || from == to {
		return api.Interval{}, err
	}
	some := slices.Compact(slices.Clone(owners(text)[from:to]))
	return api.Interval{First: some[0], Old: len(some), New: len(some)}, api.OK
}

// agree holds all that an index tells against the text that it is of.
func agree(t *testing.T, x *Index, text string) {
	t.Helper()
	spans := spansOf(text)
	if x.Count() != len(spans) || x.Size() != len(text) || x.Open() != isOpen(text) {
		t.Fatalf("%q: Count %d, Size %d, Open %v", text, x.Count(), x.Size(), x.Open())
	}
	for p, want := range spans {
		if begin, end, ok := x.Span(p); begin != want.begin || end != want.end || !ok {
			t.Fatalf("%q: Span(%d): %d, %d, %v, want %v", text, p, begin, end, ok, want)
		}
	}
	for _, p := range []int{minInt, -1, len(spans), len(spans) + 1, maxInt} {
		if begin, end, ok := x.Span(p); begin != 0 || end != 0 || ok {
			t.Fatalf("%q: Span(%d): %d, %d, %v", text, p, begin, end, ok)
		}
	}
	for at, want := range owners(text) {
		if p, ok := x.Find(at); p != want || !ok {
			t.Fatalf("%q: Find(%d): %d, %v, want %d", text, at, p, ok, want)
		}
	}
	for _, at := range []int{minInt, -1, len(text), len(text) + 1, maxInt} {
		if p, ok := x.Find(at); p != 0 || ok {
			t.Fatalf("%q: Find(%d): %d, %v", text, at, p, ok)
		}
	}
	if got := told(x); !slices.Equal(got, spans) {
		t.Fatalf("%q: Spans: %v, want %v", text, got, spans)
	}
}

// told: what Spans gives out.
func told(x *Index) []span {
	var list []span
	for begin, end := range x.Spans() {
		list = append(list, span{begin, end})
	}
	return list
}

// untouched: are the paragraphs ahead of and behind the interval as they were? (P6.5)
func untouched(before, after string, i api.Interval) bool {
	was, is := split(before), split(after)
	return slices.Equal(was[:i.First], is[:i.First]) &&
		slices.Equal(was[i.First+i.Old:], is[i.First+i.New:])
}

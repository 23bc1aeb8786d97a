package search_test

import (
	"slices"
	"strings"
	"testing"
	"unsafe"

	"reglet/api"
	"reglet/search"
)

// ownTexts: texts that have what is looked for, and texts that haven't.
func ownTexts() []string {
	return []string{"", "a", "aab", "xaabc", "b\u00e9\nab", "cccc", "aaaaaaaa"}
}

// spoil changes a list, with its spare room.
func spoil[T any](list []T, by T) {
	list = list[:cap(list)]
	for k := range list {
		list[k] = by
	}
}

// P2, rule 4: what Replace and Plain tell is the asker's: nothing that is done to it is seen in the pattern or in another answer.
func TestToldIsNew(t *testing.T) {
	for _, pattern := range []string{"a+b|c", "a*", "", "[^a]"} {
		x := made(t, pattern)
		for _, s := range ownTexts() {
			edits, found := x.pattern.Replace(s, "by"), search.Plain(s, "a")
			spoil(x.pattern.Replace(s, "by"), api.Edit{From: 7, To: 7, Text: "spoilt"})
			spoil(search.Plain(s, "a"), 7)
			if !slices.Equal(edits, x.plain.replaced(s, "by")) || !slices.Equal(found, plainPlaces(s, "a")) {
				t.Errorf("what was told of %q became %v and %d", s, edits, found)
			}
			spoil(edits, api.Edit{From: -7})
			spoil(found, -7)
			x.agree(t, s)
		}
	}
}

// shares: have two texts a byte of memory in common?
func shares(a, b string) bool {
	if a == "" || b == "" {
		return false
	}
	from, to := uintptr(unsafe.Pointer(unsafe.StringData(a))), uintptr(unsafe.Pointer(unsafe.StringData(b)))
	return from < to+uintptr(len(b)) && to < from+uintptr(len(a))
}

// P2, rule 4: no text that is told shares memory with one that was handed in, or with one that is kept.
func TestTextsAreNew(t *testing.T) {
	handed := strings.Clone("a+b|c")
	p, e, _ := search.New(handed)
	if e != api.OK {
		t.Fatal(e)
	}
	one, two := p.String(), p.String()
	if shares(one, handed) || shares(one, two) {
		t.Error("String's text isn't new")
	}
	by := strings.Clone("by this")
	first, second := p.Replace("xaabc", by), p.Replace("xaabc", by)
	if len(first) != 2 || shares(first[0].Text, by) || shares(first[0].Text, second[0].Text) {
		t.Errorf("the texts of %v aren't new", first)
	}
	for _, s := range []string{strings.Clone("abc"), strings.Clone("a.b")} {
		if shares(search.Quote(s), s) {
			t.Errorf("Quote's text of %q isn't new", s)
		}
	}
}

// P2, rule 4: the text that New was handed may be bytes that are others behind.
func TestHandedIn(t *testing.T) {
	bytes := []byte("a+b|c")
	p, e, _ := search.New(unsafe.String(&bytes[0], len(bytes)))
	if e != api.OK {
		t.Fatal(e)
	}
	want := made(t, "a+b|c")
	copy(bytes, "xxxxx")
	if p.String() != "a+b|c" {
		t.Errorf("String: %q", p.String())
	}
	for _, s := range ownTexts() {
		if got := collected(p, s, -1); !slices.Equal(got, want.plain.all(s)) {
			t.Errorf("All(%q): %d", s, got)
		}
	}
}

// Rule 4: what a pattern answers hangs on no other pattern, and on no call ahead; nor on an All that is under way.
func TestPatternsApart(t *testing.T) {
	list := []both{made(t, "a+b|c"), made(t, "a*"), made(t, ""), made(t, "[^a]"), made(t, "a+b|c")}
	for range 3 {
		for _, s := range ownTexts() {
			for _, x := range list {
				x.agree(t, s)
			}
		}
	}
	x := list[1]
	for _, s := range ownTexts() {
		var got [][2]int
		for from, to := range x.pattern.All(s) {
			got = append(got, [2]int{from, to})
			for _, y := range list {
				y.agree(t, s)
			}
		}
		if !slices.Equal(got, x.plain.all(s)) {
			t.Errorf("All(%q) of %q, with others between: %d", s, x.text, got)
		}
	}
}

// wrongTexts: texts that aren't right, wherever.
func wrongTexts() []string {
	list := []string{"\xff", "a\xff", "\xffa", "aa\xc3", "a\xc0\x80a", "a\xed\xa0\x80a", "\xf4\x90\x80\x80", "\x80\x80\x80\x80", "\u00e9\xa9\xa9", "\xf0\x9f\x98", "\xe4\xb8", strings.Repeat("a\xff", 3000), "\xf0\x9f\x98a\xf0\x9f"}
	for c := 0x70; c < 256; c += 3 {
		for d := 0x70; d < 256; d += 5 {
			list = append(list, "a"+string([]byte{byte(c), byte(d)})+"a")
		}
	}
	return list
}

// P1: every call ends and none panics, whatever the bytes are.
func TestRaw(t *testing.T) {
	for _, pattern := range []string{"", "a", "a*", ".", ".*", "[^a]", "\ufffd", "(a|.)*a", "\u00e9|[\u00a0-\u00ff]+"} {
		p := made(t, pattern).pattern
		for _, s := range wrongTexts() {
			p.Longest(s)
			p.Match(s)
			for _, from := range []int{minInt, minInt + 1, -1, 0, 1, 2, 3, len(s) - 1, len(s), len(s) + 1, maxInt - 1, maxInt} {
				p.Find(s, from)
			}
			for range p.All(s) {
			}
			for range p.All(s) {
				break
			}
			p.Replace(s, s)
		}
	}
	for _, s := range wrongTexts() {
		search.New(s)
		search.New("(" + s + "[" + s)
		search.Quote(s)
		if got, want := search.Plain(s, "a"), plainPlaces(s, "a"); !slices.Equal(got, want) {
			t.Errorf("Plain(%q): %d, not %d", s, got, want)
		}
		if got, want := search.Plain(s+s, s[1:]), plainPlaces(s+s, s[1:]); !slices.Equal(got, want) {
			t.Errorf("Plain(%q): %d, not %d", s+s, got, want)
		}
	}
}

// P1: every text of a byte or two as a pattern.
func TestRawPatterns(t *testing.T) {
	for a := range 256 {
		for b := range 256 {
			for _, s := range []string{string([]byte{byte(a), byte(b)}), "[" + string([]byte{byte(a), byte(b)}) + "]", "(" + string([]byte{byte(a), byte(b)})} {
				e, at := fault(s)
				wantNew(t, s, e, at)
			}
		}
	}
}

// P1, P18.2, P18.3: a great text where many ways are open, most of which end nowhere, is answered all the same.
func TestManyWays(t *testing.T) {
	const size = 1 << 16
	text := strings.Repeat("a", size)
	for _, c := range []struct {
		pattern string
		longest int
		found   int
	}{
		{"a*b", -1, 0}, {"(a*)*b", -1, 0}, {"(a|a)*b", -1, 0}, {"(a|aa)+b", -1, 0}, {"((a?)+)+b", -1, 0}, {"(((a*)*)*)*b", -1, 0}, {"a*a*a*a*a*a*a*a*a*a*b", -1, 0}, {"(a?a?a?)*(.*)*(a|b|[^b])*b", -1, 0},
		{"a|a*b", 1, size}, {"aa|a*b", 2, size / 2}, {"|a*b", 0, size + 1}, {"(a|aa)*", size, 2}, {"(a*)*", size, 2}, {"((a+)+)+", size, 1}, {"(a|b|ab|.)*", size, 2}, {"(a*)*|b", size, 2}, {"a*a*a*a*", size, 2}, {"(aaa)*", size / 3 * 3, 3},
		{strings.Repeat("a?", 60) + strings.Repeat("a", 60), 120, size/120 + 0}, {"(" + strings.Repeat("a|", 120) + "a)*b|a", 1, size}, {nested(20, "a*") + "*b|aa", 2, size / 2},
	} {
		p := made(t, c.pattern).pattern
		if got := p.Longest(text); got != c.longest {
			t.Errorf("Longest of %q: %d, not %d", c.pattern, got, c.longest)
		}
		if got := p.Match(text); got != (c.longest == size) {
			t.Errorf("Match of %q: %v", c.pattern, got)
		}
		if from, to, ok := p.Find(text, 0); ok != (c.longest >= 0) || ok && (from != 0 || to != c.longest) {
			t.Errorf("Find of %q: %d, %d, %v", c.pattern, from, to, ok)
		}
		found, behind := 0, 0
		for from, to := range p.All(text) {
			if from < behind || to < from {
				t.Fatalf("All of %q: %d, %d behind %d", c.pattern, from, to, behind)
			}
			found, behind = found+1, to
		}
		if found != c.found {
			t.Errorf("All of %q: %d, not %d", c.pattern, found, c.found)
		}
		if got := len(p.Replace(text, "b")); got != c.found {
			t.Errorf("Replace of %q: %d, not %d", c.pattern, got, c.found)
		}
	}
	if got := search.Plain(text+"b"+text, strings.Repeat("a", size/2)+"b"); !slices.Equal(got, []int{size / 2}) {
		t.Errorf("Plain: %d", got)
	}
	if got := search.Plain(text, strings.Repeat("a", size/2)+"b"); len(got) != 0 {
		t.Errorf("Plain: %d", got)
	}
}

// P18.3: Find again and again goes along a great text as All does, and soon: it looks no further than where something may still be taken.
func TestFindOnAndOn(t *testing.T) {
	text := strings.Repeat("ab\u00e9c", 1<<14)
	for _, pattern := range []string{"a|b", "[a-b]", "b\u00e9?", "ab|\u00e9+"} {
		p := made(t, pattern).pattern
		at, n := 0, 0
		for from, to := range p.All(text) {
			a, b, ok := p.Find(text, at)
			if a != from || b != to || !ok {
				t.Fatalf("Find of %q from %d: %d, %d, %v, not %d, %d", pattern, at, a, b, ok, from, to)
			}
			if got := p.Longest(text[from:]); got != to-from {
				t.Fatalf("Longest of %q at %d: %d, not %d", pattern, from, got, to-from)
			}
			at, n = to, n+1
		}
		if a, b, ok := p.Find(text, at); ok || n < 1<<14 {
			t.Errorf("Find of %q behind %d: %d, %d, %v", pattern, n, a, b, ok)
		}
	}
}

// P1: New's answer beside an error is nil, and its calls end, too: as of a pattern that takes none.
func TestNilPattern(t *testing.T) {
	p, _, _ := search.New("(")
	if p != nil {
		t.Fatal(p.String())
	}
	if p.String() != "" || p.States() != 0 || p.Longest("a") != -1 || p.Match("") || len(p.Replace("a", "b")) != 0 {
		t.Errorf("a nil Pattern: %q, %d, %d", p.String(), p.States(), p.Longest("a"))
	}
	if a, b, ok := p.Find("a", 0); a != 0 || b != 0 || ok {
		t.Errorf("Find: %d, %d, %v", a, b, ok)
	}
	for from, to := range p.All("a") {
		t.Errorf("All: %d, %d", from, to)
	}
}

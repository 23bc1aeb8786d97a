package runes_test

import (
	"math"
	"strings"
	"testing"
	"unicode/utf8"

	"reglet/api"
	"reglet/runes"
)

// P2.1: right texts, and each thing that may be wrong, at a text's beginning, behind runes, and ahead of them.
func TestBad(t *testing.T) {
	for _, c := range []struct {
		s   string
		bad int
	}{
		{"", -1}, {"a", -1}, {"\x00", -1}, {"\x7f", -1}, {"a\u00e9\u20ac\U0001f600", -1}, {"\ufffd", -1}, {"\ufeff", -1},
		{"\xc3(", 0}, {"\u00e9\xc3(", 2}, {"a\xe2\x28\xa1", 1}, {"\xe2\x82(", 0}, {"\xf0\x9f\x98(", 0}, {"\xf0\x9f(\x80", 0}, {"\xf0(\x98\x80", 0},
		{"\xc3", 0}, {"a\xc3", 1}, {"\xe2", 0}, {"ab\xe2\x82", 2}, {"\xf0", 0}, {"\xf0\x9f", 0}, {"\U0001f600\xf0\x9f\x98", 4}, // cut short
		{"\xc0\x80", 0}, {"\xc1\xbf", 0}, {"\xe0\x80\x80", 0}, {"\xe0\x9f\xbf", 0}, {"\xf0\x80\x80\x80", 0}, {"a\xf0\x8f\xbf\xbf", 1}, // more bytes than needed
		{"\xc2\x80", -1}, {"\xe0\xa0\x80", -1}, {"\xf0\x90\x80\x80", -1}, // and just as many
		{"\xed\xa0\x80", 0}, {"a\xed\xa0\x80", 1}, {"\xed\xbf\xbf", 0}, {"\xed\xa0\x80\xed\xb0\x80", 0}, {"\xed\x9f\xbf", -1}, {"\xee\x80\x80", -1}, // D800 to DFFF, and beside them
		{"\xf4\x90\x80\x80", 0}, {"ab\xf4\x90\x80\x80", 2}, {"\xf5\x80\x80\x80", 0}, {"\xf7\xbf\xbf\xbf", 0}, {"\xf4\x8f\xbf\xbf", -1}, // above 10FFFF
		{"\xf8\x88\x80\x80\x80", 0}, {"\xfc\x84\x80\x80\x80\x80", 0}, {"\xfe", 0}, {"abc\xff", 3},
		{"\x80", 0}, {"\xbf", 0}, {"a\x80", 1}, {"\u00e9\x80", 2}, {"\u20ac\xbf", 3}, {"\U0001f600\x80", 4}, {"\x80abc", 0},
		{"a\xffb\xff", 1}, {"\u20ac\u20ac\xc3\u20ac", 6},
	} {
		if n := runes.Bad(c.s); n != c.bad {
			t.Errorf("Bad(%q) = %d, not %d", c.s, n, c.bad)
		}
		want := api.ErrUTF8
		if c.bad < 0 {
			want = api.OK
		}
		if e := runes.Check(c.s); e != want {
			t.Errorf("Check(%q) = %d, not %d", c.s, e, want)
		}
	}
}

// P2.1, of every text of a few bytes that lie at some edge.
func TestBadOfAllBytes(t *testing.T) {
	rawTexts(func(s string) {
		want := firstBad(s)
		if n := runes.Bad(s); n != want {
			t.Fatalf("Bad(%q) = %d, not %d", s, n, want)
		}
		if e := runes.Check(s); (e == api.OK) != (want < 0) || e != api.OK && e != api.ErrUTF8 {
			t.Fatalf("Check(%q) = %d", s, e)
		}
	})
}

// firstBad: what the library says.
func firstBad(s string) int {
	for at := 0; at < len(s); {
		r, size := utf8.DecodeRuneInString(s[at:])
		if r == utf8.RuneError && size <= 1 {
			return at
		}
		at += size
	}
	return -1
}

// P2.1: a long text is gone through to its end.
func TestBadFarBehind(t *testing.T) {
	long := strings.Repeat("a\u00e9\u20ac\U0001f600", 10000)
	if n := runes.Bad(long); n != -1 {
		t.Errorf("Bad = %d", n)
	}
	if n := runes.Bad(long + "\xf0\x9f\x98"); n != len(long) {
		t.Errorf("Bad = %d, not %d", n, len(long))
	}
}

// P2.2: the kinds' numbers, each rune that has a kind of its own, and both its neighbours.
func TestKind(t *testing.T) {
	if k := [...]int{runes.Letter, runes.Space, runes.Fast, runes.Soft, runes.Gap, runes.Joiner, runes.Hyphen, runes.NewLine, runes.NewPara}; k != [...]int{0, 1, 2, 3, 4, 5, 6, 7, 8} {
		t.Errorf("the kinds are %d", k)
	}
	named := map[rune]int{0x20: 1, 0x9: 1, 0xA0: 2, 0x202F: 2, 0xAD: 3, 0x200B: 4, 0x2060: 5, 0xFEFF: 5, 0x2D: 6, 0x2010: 6, 0x2028: 7, 0xA: 8}
	for r, kind := range named {
		if k := runes.Kind(r); k != kind {
			t.Errorf("Kind(%X) = %d, not %d", r, k, kind)
		}
	}
	for _, r := range []rune{0x8, 0xB, 0xD, 0x1F, 0x21, 0x2C, 0x2E, 0x9F, 0xA1, 0xAC, 0xAE, 0x85, 0x1680, 0x2000, 0x200A, 0x200C, 0x200D, 0x200F, 0x2011, 0x2027, 0x2029, 0x202E, 0x2030, 0x205F, 0x2061, 0x3000, 0xFEFE, 0xFF00, 'a', '_', 0x4E2D} {
		if k := runes.Kind(r); k != runes.Letter {
			t.Errorf("Kind(%X) = %d, not a letter", r, k)
		}
	}
	for r := rune(-0x1000); r <= 0x120000; r++ {
		if k := runes.Kind(r); k != named[r] {
			t.Errorf("Kind(%X) = %d, not %d", r, k, named[r])
		}
	}
	for _, r := range noRunes() {
		if k := runes.Kind(r); k != runes.Letter {
			t.Errorf("Kind(%X) = %d, not a letter", r, k)
		}
	}
}

// P2.3: each byte.
func TestInside(t *testing.T) {
	for c := range 256 {
		if in := runes.Inside(byte(c)); in != (c >= 0x80 && c < 0xC0) {
			t.Errorf("Inside(%X) = %t", c, in)
		}
	}
}

// P2.3, at each place of right texts, and beyond them.
func TestBoundary(t *testing.T) {
	for _, c := range rightTexts() {
		between := map[int]bool{}
		for _, at := range c.edges {
			between[at] = true
		}
		for at := range len(c.text) + 1 {
			want := api.ErrInside
			if between[at] {
				want = api.OK
			}
			if e := runes.Boundary(c.text, at); e != want {
				t.Errorf("Boundary(%q, %d) = %d, not %d", c.text, at, e, want)
			}
		}
		for _, at := range []int{-1, -2, math.MinInt, len(c.text) + 1, len(c.text) + 2, math.MaxInt} {
			if e := runes.Boundary(c.text, at); e != api.ErrOffset {
				t.Errorf("Boundary(%q, %d) = %d, not %d", c.text, at, e, api.ErrOffset)
			}
		}
	}
	if e := runes.Boundary("\u00e9", 1); e != api.ErrInside { // the chapter's example
		t.Errorf("Boundary = %d", e)
	}
}

// P2.3: of an empty text there is no first and no last rune, and the rune 0 has a byte.
func TestFirstAndLast(t *testing.T) {
	for _, c := range rightTexts() {
		first, last := 0, 0
		if len(c.runes) > 0 {
			first, last = c.runes[0], c.runes[len(c.runes)-1]
		}
		firstSize := c.edges[min(1, len(c.runes))]
		lastSize := len(c.text) - c.edges[max(0, len(c.runes)-1)]
		if r, n := runes.First(c.text); int(r) != first || n != firstSize {
			t.Errorf("First(%q) = %X, %d, not %X, %d", c.text, r, n, first, firstSize)
		}
		if r, n := runes.Last(c.text); int(r) != last || n != lastSize {
			t.Errorf("Last(%q) = %X, %d, not %X, %d", c.text, r, n, last, lastSize)
		}
	}
}

// P2.3: how many runes there are, and how many of them end paragraphs; 2028 ends none.
func TestCountAndLines(t *testing.T) {
	for _, c := range rightTexts() {
		ends := 0
		for _, r := range c.runes {
			if r == 0xA {
				ends++
			}
		}
		if n := runes.Count(c.text); n != len(c.runes) {
			t.Errorf("Count(%q) = %d, not %d", c.text, n, len(c.runes))
		}
		if n := runes.Lines(c.text); n != ends {
			t.Errorf("Lines(%q) = %d, not %d", c.text, n, ends)
		}
	}
	for s, want := range map[string]int{"": 0, "a": 0, "\n": 1, "a\n": 1, "\na\n\n\u20ac\n": 4, "\r\u2028\u2029\u0085": 0, "\u010a\u0a0a": 0} {
		if n := runes.Lines(s); n != want {
			t.Errorf("Lines(%q) = %d, not %d", s, n, want)
		}
	}
}

// P2.3: most within each rune, at both its ends, below 0 and above the length.
func TestCut(t *testing.T) {
	for _, c := range rightTexts() {
		want, next := 0, 0
		for most := range len(c.text) + 3 {
			for next < len(c.edges) && c.edges[next] <= most {
				want = c.edges[next]
				next++
			}
			if n := runes.Cut(c.text, most); n != want {
				t.Errorf("Cut(%q, %d) = %d, not %d", c.text, most, n, want)
			}
		}
		for most, want := range map[int]int{-1: 0, -2: 0, math.MinInt: 0, math.MaxInt: len(c.text)} {
			if n := runes.Cut(c.text, most); n != want {
				t.Errorf("Cut(%q, %d) = %d, not %d", c.text, most, n, want)
			}
		}
	}
	if n := runes.Cut("\u00e9", 1); n != 0 { // the chapter's example
		t.Errorf("Cut = %d", n)
	}
}

// P2.3: each rune, the text's end, and numbers that no rune has.
func TestAt(t *testing.T) {
	for _, c := range rightTexts() {
		for n, want := range c.edges {
			if at, ok := runes.At(c.text, n); at != want || !ok {
				t.Errorf("At(%q, %d) = %d, %t, not %d", c.text, n, at, ok, want)
			}
		}
		many := len(c.runes)
		for _, n := range []int{-1, -2, -many, -many - 1, math.MinInt, many + 1, many + 2, math.MaxInt} {
			if at, ok := runes.At(c.text, n); n != 0 && (at != 0 || ok) {
				t.Errorf("At(%q, %d) = %d, %t", c.text, n, at, ok)
			}
		}
	}
}

// P1: of texts that aren't right the calls only end.
func TestWrongTextsEnd(t *testing.T) {
	see := func(s string) {
		runes.First(s)
		runes.Last(s)
		runes.Count(s)
		runes.Lines(s)
		for _, n := range []int{math.MinInt, -1, 0, 1, 2, 3, 4, 5, math.MaxInt} {
			runes.Boundary(s, n)
			runes.Cut(s, n)
			runes.At(s, n)
		}
	}
	rawTexts(see)
	see(strings.Repeat("\x80", 100000))
	see(strings.Repeat("\xf0\x9f", 100000))
}

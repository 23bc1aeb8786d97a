package metrics_test

import (
	"math"
	"math/rand/v2"
	"testing"

	"reglet/api"
	"reglet/metrics"
	"reglet/runes"
	"reglet/scaled"
)

// kinds: a rune of every kind, and such as are beside them.
func kinds() []rune {
	return []rune{0x9, 0xA, 0x20, 0x2D, 0xA0, 0xAD, 0x200B, 0x2010, 0x2028, 0x202F, 0x2060, 0xFEFF, 0, 8, 0xB, 0xD, 0x1F, 0x21, 0x2C, 0x2E, 'a', 'Z', 0x9F, 0xA1, 0xAC, 0xAE, 0xE9,
		0x200A, 0x200C, 0x2011, 0x2027, 0x2029, 0x202E, 0x2030, 0x205F, 0x2061, 0xFEFE, 0xFF00, 0xFFFD, 0xFFFF, 0x10000, 0x1F600, 0x10FFFF}
}

// P4.3: runes of every kind, in a style whose ranges have them, and in others.
func TestWidth(t *testing.T) {
	m := made(t, three())
	for _, c := range []struct {
		r                  rune
		first, whole, bare int
	}{
		{' ', 9, 11, 10}, {'\t', 9, 11, 10}, {0xA0, 9, 11, 10}, {0x202F, 9, 11, 10},
		{0xAD, 0, 0, 0}, {0x200B, 0, 0, 0}, {0x2060, 0, 0, 0}, {0xFEFF, 0, 0, 0}, {0x2028, 0, 0, 0}, {'\n', 0, 0, 0},
		{'-', 7, 17, 14}, {0x2010, 25, 17, 14}, {'\r', 7, 17, 14}, {0, 7, 17, 14}, {'A', 7, 17, 14},
		{'`', 7, 17, 14}, {'a', 21, 17, 14}, {'c', 21, 17, 14}, {'f', 21, 17, 14}, {'g', 22, 17, 14}, {'h', 7, 17, 14}, {'j', 7, 17, 14}, {'k', 23, 17, 14}, {'z', 23, 17, 14}, {'{', 7, 17, 14},
		{0xDF, 7, 17, 14}, {0xE0, 24, 17, 14}, {0xE9, 24, 17, 14}, {0xFF, 24, 17, 14}, {0x100, 7, 17, 14},
		{0x1FFF, 7, 17, 14}, {0x2000, 25, 17, 14}, {0x2FFF, 25, 17, 14}, {0x3000, 7, 17, 14},
		{0x1F5FF, 7, 17, 14}, {0x1F600, 26, 17, 14}, {0x1F64F, 26, 17, 14}, {0x1F650, 7, 17, 14}, {0x10FFFF, 7, 17, 14},
		{-1, 7, 13, 14}, {math.MinInt32, 7, 13, 14}, {0xD800, 7, 17, 14}, {0x110000, 7, 13, 14}, {math.MaxInt32, 7, 13, 14},
	} {
		for k, want := range []int{c.first, c.whole, c.bare} {
			if n := m.Width(k, c.r); n != want {
				t.Errorf("Width(%d, %X) = %d, not %d", k, c.r, n, want)
			}
		}
	}
}

// P4.3, held against its sentence: drawn styles, at each range's ends, beside them, and at every kind.
func TestWidthDrawn(t *testing.T) {
	from := rand.New(rand.NewPCG(4, 3))
	for range 300 {
		styles := drawn(from, 3)
		m := made(t, styles)
		for k, s := range styles {
			list := append(kinds(), -1, 0xD800, 0x110000, rune(from.IntN(0x110000)))
			for _, x := range s.Ranges {
				list = append(list, rune(x.Lo-1), rune(x.Lo), rune(x.Lo+1), rune((x.Lo+x.Hi)/2), rune(x.Hi-1), rune(x.Hi), rune(x.Hi+1))
			}
			for _, r := range list {
				if n, want := m.Width(k, r), wide(s, r); n != want {
					t.Fatalf("Width(%d, %X) = %d, not %d, of %v", k, r, n, want, s)
				}
			}
		}
	}
}

// P4.3: every rune, in a style with as many ranges as there may be.
func TestWidthEveryRune(t *testing.T) {
	s := changed(func(s *api.Style) { s.Ranges = nil })
	for k := range api.MaxRanges {
		s.Ranges = append(s.Ranges, api.Range{Lo: k * k * 16, Hi: k*k*16 + k*16, Width: 100 + k})
	}
	s.Ranges[63].Hi = 0x10FFFF
	m := made(t, []api.Style{s})
	for r := rune(0); r <= 0x10FFFF; r++ {
		if n, want := m.Width(0, r), wide(s, r); n != want {
			t.Fatalf("Width(0, %X) = %d, not %d", r, n, want)
		}
	}
}

// P4.3: texts of runes of one to four bytes, the empty one, and the chapter's example.
func TestText(t *testing.T) {
	m := made(t, three())
	for _, c := range []struct {
		text               string
		first, whole, bare int
	}{
		{"", 0, 0, 0}, {"a", 21, 17, 14}, {"\u00e9", 24, 17, 14}, {"\u2030", 25, 17, 14}, {"\U0001f600", 26, 17, 14},
		{"aQ", 28, 34, 28}, {"a b", 51, 45, 38}, {"a\u00a0\u202f\t b", 78, 78, 68}, {"g\u00ad\u200b\u2060\ufeff\u2028\ng", 44, 34, 28},
		{"a\u00e9\u2030\U0001f600", 96, 68, 56}, {"\n", 0, 0, 0}, {"-\u2010", 32, 34, 28}, {"\x00", 7, 17, 14}, {"\ufffd", 7, 17, 14},
	} {
		for k, want := range []int{c.first, c.whole, c.bare} {
			if n := m.Text(k, c.text); n != want {
				t.Errorf("Text(%d, %q) = %d, not %d", k, c.text, n, want)
			}
		}
	}
	plain := made(t, metrics.Plain(10, 6))
	if n := plain.Text(0, "abc"); n != 18 {
		t.Errorf("in Plain(10, 6) three letters are %d wide", n)
	}
}

// drawnText: a right text of so many runes, of every kind and size.
func drawnText(from *rand.Rand, many int) []rune {
	list := make([]rune, many)
	for k := range list {
		list[k] = kinds()[from.IntN(len(kinds()))]
		if from.IntN(2) == 0 {
			list[k] = rune(from.IntN(1 << (1 + from.IntN(16))))
		}
		if list[k] >= 0xD800 && list[k] <= 0xDFFF {
			list[k] -= 0x800
		}
	}
	return list
}

// P4.3, P4.5: a text's width is its runes' widths together, and that of its parts, wherever it is cut between runes.
func TestTextIsItsParts(t *testing.T) {
	from := rand.New(rand.NewPCG(4, 5))
	for range 300 {
		styles := drawn(from, 2)
		m := made(t, styles)
		list := drawnText(from, from.IntN(40))
		text := string(list)
		for k, s := range styles {
			want := 0
			for _, r := range list {
				want = scaled.Add(want, wide(s, r))
			}
			if n := m.Text(k, text); n != want {
				t.Fatalf("Text(%d, %q) = %d, not %d", k, text, n, want)
			}
			for at := 0; at <= len(text); at++ {
				if runes.Boundary(text, at) != api.OK {
					continue
				}
				if n := m.Text(k, text[:at]) + m.Text(k, text[at:]); n != want {
					t.Fatalf("the parts of %q, cut at %d, are %d wide, not %d", text, at, n, want)
				}
			}
		}
	}
}

// P4.3, P4.5: a text as long as a document of the widest runes isn't cut short.
func TestTextLong(t *testing.T) {
	m := made(t, metrics.Plain(1, api.MaxUnit))
	long := make([]byte, api.MaxText)
	for k := range long {
		long[k] = 'a'
	}
	if n := m.Text(0, string(long)); n != api.MaxText*api.MaxUnit {
		t.Errorf("Text = %d", n)
	}
}

// P1: texts that aren't right have an answer too.
func TestTextWrong(t *testing.T) {
	m := made(t, three())
	for _, s := range []string{"\xff", "\x80", "a\xc3", "\xed\xa0\x80", "\xf4\x90\x80\x80", "\xe2\x82"} {
		for k := -1; k < 4; k++ {
			if a, b := m.Text(k, s), m.Text(k, s); a != b {
				t.Errorf("Text(%d, %q) = %d and %d", k, s, a, b)
			}
		}
	}
}

// P4.3: runs of several styles, of none, empty ones and such as are less than empty, styles that there are none of.
func TestTallest(t *testing.T) {
	m := made(t, three()) // heights 12, 30, 20
	for _, c := range []struct {
		list []api.Run
		want int
	}{
		{nil, 12}, {[]api.Run{}, 12}, {[]api.Run{{Len: 1}}, 12}, {[]api.Run{{Len: 1, Style: 1}}, 30}, {[]api.Run{{Len: 5, Style: 2}}, 20},
		{[]api.Run{{Len: 1, Style: 0}, {Len: 1, Style: 2}}, 20}, {[]api.Run{{Len: 1, Style: 2}, {Len: 1, Style: 0}}, 20}, {[]api.Run{{Len: 1, Style: 2}, {Len: 1, Style: 1}, {Len: 1, Style: 0}}, 30},
		{[]api.Run{{Len: 0, Style: 1}}, 12}, {[]api.Run{{Len: -1, Style: 1}}, 12}, {[]api.Run{{Len: math.MinInt, Style: 1}}, 12}, {[]api.Run{{Len: math.MaxInt, Style: 1}}, 30},
		{[]api.Run{{Len: 3, Style: 2}, {Len: 0, Style: 1}}, 20}, {[]api.Run{{Len: -3, Style: 1}, {Len: 3, Style: 2}}, 20}, {[]api.Run{{Len: 0, Style: 1}, {Len: 3, Style: 0}}, 12},
		{[]api.Run{{Len: 1, Style: 3}}, 12}, {[]api.Run{{Len: 1, Style: -1}}, 12}, {[]api.Run{{Len: 1, Style: math.MinInt}, {Len: 1, Style: math.MaxInt}}, 12},
		{[]api.Run{{Len: 1, Style: 3}, {Len: 1, Style: 2}}, 20}, {[]api.Run{{Len: 1, Style: 2}, {Len: 1, Style: -1}}, 20},
	} {
		if n := m.Tallest(c.list); n != c.want {
			t.Errorf("Tallest(%v) = %d, not %d", c.list, n, c.want)
		}
	}
	// The style 0 counts where nothing else does, not as one of the list: here it is the highest.
	high := made(t, []api.Style{{Height: 50}, {Height: 1}})
	for style, want := range []int{50, 1, 50} {
		if n := high.Tallest([]api.Run{{Len: 2, Style: style}}); n != want {
			t.Errorf("Tallest of the style %d = %d, not %d", style, n, want)
		}
	}
}

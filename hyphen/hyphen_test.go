package hyphen_test

import (
	"testing"

	"reglet/hyphen"
)

// The chapter's example, and the words below it.
func TestExample(t *testing.T) {
	x := made(t, []string{"1na", "n2at"}, nil, 2, 2)
	x.wantPoints(t, "hyphenation", 5)
	x.agree(t, "hyphenation")
	if s := x.book.Put("A hyphenation."); s != "A hyphe\u00adnation." {
		t.Errorf("Put: %q", s)
	}
}

// someNumbers: far from all runes.
func someNumbers() []rune {
	return []rune{-0x80000000, -0x7FFFFFFF, -0x10000, 0x111000, 0x1FFFFF, 0x200000, 0x200041, 0x7FFFFFFE, 0x7FFFFFFF}
}

// The section Types: Letter, of every rune and of what is none.
func TestLetter(t *testing.T) {
	check := func(r rune) {
		if l := hyphen.Letter(r); l != isLetter(int(r)) {
			t.Errorf("Letter(%X) = %t", r, l)
		}
	}
	for r := rune(-0x2000); r <= 0x112000; r++ {
		check(r)
	}
	for _, r := range someNumbers() {
		check(r)
	}
}

// The same, of runes that are written out: the edges of what is one, and layer 2's kinds.
func TestLetterByHand(t *testing.T) {
	for _, r := range []rune{'a', 'm', 'z', 'A', 'M', 'Z', 0xC0, 0xC9, 0xD6, 0xD8, 0xDF, 0xE9, 0xF6, 0xF8, 0xFF, 0x100, 0x3B1, 0x410, 0x660, 0x2000, 0x200A, 0x200C, 0x200F, 0x2011, 0x2027, 0x2029, 0x202E, 0x2030, 0x205F, 0x2061, 0x3000, 0x4E2D, 0xD7FF, 0xE000, 0xFEFE, 0xFF00, 0xFFFD, 0xFFFF, 0x10000, 0x1F600, 0x10FFFF} {
		if !hyphen.Letter(r) {
			t.Errorf("%X is a letter", r)
		}
	}
	for _, r := range []rune{-1, 0, 9, 0xA, ' ', '-', '.', '0', '9', '@', '[', '_', '`', '{', 0x7F, 0x80, 0xA0, 0xAA, 0xAD, 0xB5, 0xBA, 0xBF, 0xD7, 0xF7, 0x200B, 0x2010, 0x2028, 0x202F, 0x2060, 0xFEFF, 0xD800, 0xDABC, 0xDFFF, 0x110000} {
		if hyphen.Letter(r) {
			t.Errorf("%X is no letter", r)
		}
	}
}

// The section Types: Lower, of every rune and of what is none.
func TestLower(t *testing.T) {
	const great, small = "ABCDEFGHIJKLMNOPQRSTUVWXYZ", "abcdefghijklmnopqrstuvwxyz"
	want := map[rune]rune{}
	for k := range great {
		want[rune(great[k])] = rune(small[k])
	}
	check := func(r rune) {
		low, ok := want[r]
		if !ok {
			low = r
		}
		if l := hyphen.Lower(r); l != low {
			t.Errorf("Lower(%X) = %X, not %X", r, l, low)
		}
	}
	for r := rune(-0x2000); r <= 0x112000; r++ {
		check(r)
	}
	for _, r := range someNumbers() {
		check(r)
	}
}

// The section Functions: the rune itself.
func TestSoft(t *testing.T) {
	if hyphen.Soft != 0xAD || string(rune(hyphen.Soft)) != "\u00ad" {
		t.Errorf("Soft is %X", hyphen.Soft)
	}
}

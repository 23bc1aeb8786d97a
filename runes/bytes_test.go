package runes_test

import (
	"bytes"
	"slices"
	"testing"

	"reglet/runes"
)

// P2.4: each rune's bytes, behind none and behind others, and nothing of what is no rune.
func TestAppend(t *testing.T) {
	for n := -1000; n <= 0x120000; n++ {
		var want []byte
		if isRune(n) {
			want = writing(n)
		}
		if b := runes.Append(nil, rune(n)); !bytes.Equal(b, want) {
			t.Fatalf("Append(nil, %X) = %X, not %X", n, b, want)
		}
	}
	for _, ahead := range []string{"", "a", "\u00e9\U0001f600", "\xff\x80", "ab\xe2\x82"} {
		for _, n := range someRunes() {
			want := ahead + string(writing(n))
			if b := runes.Append([]byte(ahead), rune(n)); string(b) != want {
				t.Fatalf("Append(%X, %X) = %X, not %X", ahead, n, b, want)
			}
		}
		for _, r := range noRunes() {
			if b := runes.Append([]byte(ahead), r); string(b) != ahead {
				t.Fatalf("Append(%X, %X) = %X", ahead, r, b)
			}
		}
	}
}

// P2.4: what was handed in stays as it was, its spare room too, and shares nothing with the answer.
func TestAppendIsNewMemory(t *testing.T) {
	for _, r := range append(noRunes(), 0, 'a', 0xE9, 0x20AC, 0x1F600) {
		for _, size := range []int{0, 1, 2, 10} {
			whole := []byte("0123456789abcdef")
			kept := slices.Clone(whole)
			first := runes.Append(whole[:size], r)
			second := runes.Append(whole[:size], r)
			if !bytes.Equal(whole, kept) {
				t.Fatalf("Append(.., %X) wrote into what was handed in: %q", r, whole)
			}
			told := slices.Clone(first)
			spoil(second)
			if spoil(whole); !bytes.Equal(first, told) {
				t.Fatalf("Append(.., %X) shares its memory: %q", r, first)
			}
			if spoil(first); !bytes.Equal(whole, bytes.Repeat([]byte{'!'}, len(whole))) {
				t.Fatalf("Append(.., %X) shares its memory: %q", r, whole)
			}
		}
	}
}

// spoil writes over a list, its spare room too.
func spoil(b []byte) {
	for k := range b[:cap(b)] {
		b[:cap(b)][k] = '!'
	}
}

// P2.5: each rune alone, and texts of many.
func TestAppendedIsRight(t *testing.T) {
	for n := range 0x110000 {
		if !isRune(n) {
			continue
		}
		s := string(runes.Append(nil, rune(n)))
		if bad := runes.Bad(s); bad != -1 {
			t.Fatalf("Bad of %X = %d", n, bad)
		}
		if r, size := runes.First(s); int(r) != n || size != len(s) {
			t.Fatalf("First of %X = %X, %d", n, r, size)
		}
		if r, size := runes.Last(s); int(r) != n || size != len(s) {
			t.Fatalf("Last of %X = %X, %d", n, r, size)
		}
	}
	for _, c := range rightTexts() {
		var b []byte
		for _, n := range c.runes {
			b = runes.Append(b, rune(n))
		}
		if list, ok := taken(string(b)); !ok || !slices.Equal(list, c.runes) {
			t.Fatalf("%X were appended, %X are there", c.runes, list)
		}
	}
}

// taken: a text's runes, taken off one by one; false: it is wrong.
func taken(s string) ([]int, bool) {
	var list []int
	if runes.Check(s) != 0 {
		return nil, false
	}
	for s != "" {
		r, size := runes.First(s)
		if size == 0 {
			return nil, false
		}
		list, s = append(list, int(r)), s[size:]
	}
	return list, true
}

// P2.5: no other bytes write a rune: of up to two bytes all texts, of three and four those whose bytes lie at some edge.
func TestNoOtherBytes(t *testing.T) {
	see := func(s string) {
		list, ok := taken(s)
		if !ok {
			return
		}
		var b []byte
		for _, n := range list {
			if !isRune(n) {
				t.Fatalf("%X has the rune %X", s, n)
			}
			b = runes.Append(b, rune(n))
		}
		if string(b) != s {
			t.Fatalf("%X writes %X, and so does %X", s, list, b)
		}
	}
	rawTexts(see)
	for a := range 256 {
		for b := range 256 {
			see(string([]byte{byte(a), byte(b)}))
			for _, c := range someBytes() {
				see(string([]byte{byte(a), byte(b), c}))
				see(string([]byte{byte(a), byte(b), c, 0x80}))
				see(string([]byte{byte(a), byte(b), c, 0xBF}))
			}
		}
	}
}

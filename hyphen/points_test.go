package hyphen_test

import (
	"strings"
	"testing"
)

// everywhere: patterns by which a hyphen may come at each place of a word of small a.
func everywhere(t testing.TB, left, right int) both { return made(t, []string{"1a"}, nil, left, right) }

// upTo: the numbers from one to another.
func upTo(from, to int) []int {
	var list []int
	for n := from; n <= to; n++ {
		list = append(list, n)
	}
	return list
}

// P17.2: none of what is no word.
func TestPointsOfNoWord(t *testing.T) {
	x := made(t, []string{"1a", "1\ufffd", "1\u00e9"}, []string{"a-b-a"}, 1, 1)
	for _, s := range []string{
		"", " ", "-", ".", "1", "aa aa", " aa", "aa ", "aa-aa", "-aa", "aa-", "a-b-a", "aa.", ".aa", "aa1aa", "1aa", "aa\n", "\naa", "aa\u00adaa", "\u00adaa", "aa\u00ad",
		"aa\u00d7aa", "aa\u00f7", "aa\u2010a", "aa\u200ba", "\ufeffaa", "aa\u00a0", "aa\x00aa", "aa'aa",
		"\xff", "aa\xff", "\xffaa", "aa\x80aa", "aa\xc3", "a\xc0\x80a", "a\xed\xa0\x80a", "a\xf4\x90\x80\x80a",
	} {
		x.wantPoints(t, s)
	}
	x.wantPoints(t, "aa\ufffd\u00e9", 1, 2, 3)
}

// P17.2: of at most MaxPattern bytes, however many runes these are.
func TestPointsOfLongWords(t *testing.T) {
	x := made(t, []string{"1a", "1\u00e9", "1\u4e2d"}, nil, 1, 1)
	x.wantPoints(t, strings.Repeat("a", 256), upTo(1, 255)...)
	x.wantPoints(t, strings.Repeat("a", 257))
	x.wantPoints(t, strings.Repeat("A", 256), upTo(1, 255)...)
	x.wantPoints(t, strings.Repeat("\u00e9", 128), upTo(1, 127)...)
	x.wantPoints(t, strings.Repeat("\u00e9", 128)+"a")
	x.wantPoints(t, strings.Repeat("\u4e2d", 85)+"a", upTo(1, 85)...)
	x.wantPoints(t, strings.Repeat("\u4e2d", 85)+"aa")
	x.wantPoints(t, strings.Repeat("a", 100000))
	known := made(t, nil, []string{strings.Repeat("a-", 127) + "aa"}, 1, 1)
	known.wantPoints(t, strings.Repeat("a", 129), upTo(1, 127)...)
	known.wantPoints(t, strings.Repeat("a", 128))
}

// P17.2: words of one letter, and of as many runes as left and right leave, one more and one less.
func TestPointsLeftAndRight(t *testing.T) {
	for _, left := range []int{1, 2, 3, 7, 99, 100} {
		for _, right := range []int{1, 2, 4, 7, 99, 100} {
			x := everywhere(t, left, right)
			for _, n := range []int{1, 2, left, right, left + right - 2, left + right - 1, left + right, left + right + 1, left + right + 9} {
				if n > 0 {
					x.wantPoints(t, strings.Repeat("a", n), upTo(left, n-right)...)
				}
			}
		}
	}
}

// P17.2: runes are counted, not bytes; so of patterns' places and of words' hyphens.
func TestPointsBeyondOneByte(t *testing.T) {
	x := made(t, []string{"1\u00e9", "\u4e2d3\u6587", "\U0001f6001a."}, []string{"\u00e9-\u4e2d-\U0001f600-Z"}, 1, 1)
	x.wantPoints(t, "\u00e9\u00e9\u00e9", 1, 2)
	x.wantPoints(t, "a\u4e2d\u6587b", 2)
	x.wantPoints(t, "\u4e2d\u4e2d\U0001f600a", 3)
	x.wantPoints(t, "\u4e2d\U0001f600ab")
	x.wantPoints(t, "\u00e9\u4e2d\U0001f600z", 1, 2, 3)
	y := made(t, []string{"1\u00e9"}, []string{"\u4e2d-\u4e2d-\u4e2d-\u4e2d"}, 2, 2)
	y.wantPoints(t, "\u00e9\u00e9\u00e9")
	y.wantPoints(t, "\u00e9\u00e9\u00e9\u00e9", 2)
	y.wantPoints(t, "\u4e2d\u4e2d\u4e2d\u4e2d", 2)
}

// P17.2: a known word, in small and great letters: its hyphens, as far as left and right leave them; patterns don't count.
func TestPointsOfKnownWords(t *testing.T) {
	words := []string{"ta-ble", "Pro-JECT", "abc", "a-b-c-d-e-f"}
	patterns := []string{"1b", "1l", "1e", "9a", "1c"}
	x := made(t, patterns, words, 1, 1)
	for _, s := range []string{"table", "TABLE", "Table", "tAbLe"} {
		x.wantPoints(t, s, 2)
	}
	for _, s := range []string{"project", "PROJECT", "Project"} {
		x.wantPoints(t, s, 3)
	}
	for _, s := range []string{"abc", "ABC"} {
		x.wantPoints(t, s)
	}
	x.wantPoints(t, "abcdef", 1, 2, 3, 4, 5)
	x.wantPoints(t, "tables", 1, 2, 3, 4) // not known: by the patterns
	x.wantPoints(t, "stable", 2, 3, 4, 5)
	made(t, patterns, words, 3, 2).wantPoints(t, "abcdef", 3, 4)
	made(t, patterns, words, 2, 3).wantPoints(t, "Table", 2)
	made(t, patterns, words, 3, 3).wantPoints(t, "Table")
	made(t, patterns, words, 2, 4).wantPoints(t, "Table")
	made(t, patterns, words, 3, 3).wantPoints(t, "abcdef", 3)
	made(t, patterns, words, 4, 3).wantPoints(t, "abcdef")
	made(t, patterns, words, 100, 100).wantPoints(t, "abcdef")
}

// P17.2: patterns take a word's great letters for small ones.
func TestPointsOfGreatLetters(t *testing.T) {
	x := made(t, []string{"1na", "n2at"}, nil, 2, 2)
	for _, s := range []string{"HYPHENATION", "Hyphenation", "hyphENATion"} {
		x.wantPoints(t, s, 5)
	}
}

// P17.2: where several patterns speak of one place the greatest level counts, even or odd.
func TestGreatestLevel(t *testing.T) {
	for _, c := range []struct {
		patterns string
		want     []int
	}{
		{"a1b a2bc", nil}, {"a2b a1bc", nil}, {"a2b a3bc", []int{1}}, {"a3b a2bc", []int{1}}, {"a9b a8bc", []int{1}}, {"a8b a9bc", []int{1}}, {"a7b a8bc", nil},
		{"a1b a0bc", []int{1}}, {"a1b abc", []int{1}}, {"a0b", nil}, {"a2b", nil}, {"a3b", []int{1}}, {"a4b", nil}, {"a5b", []int{1}}, {"a6b", nil}, {"a7b", []int{1}}, {"a8b", nil}, {"a9b", []int{1}},
		{"a1 2b", nil}, {"a2 1b", nil}, {"a2 3b", []int{1}}, {"a3 2b 1bc a1bc", []int{1}}, {"a4 5b 6bc a3bc", nil},
		{".a1 2b", nil}, {".a3 2b", []int{1}}, {"a1b1c", []int{1, 2}}, {"a1b1c b2c", []int{1}}, {"1a1b1c1", []int{1, 2}},
	} {
		made(t, strings.Fields(c.patterns), nil, 1, 1).wantPoints(t, "abc", c.want...)
	}
}

// P17.2: a pattern with a point stands at the word's beginning or end alone.
func TestPointsAtEnds(t *testing.T) {
	for _, c := range []struct {
		patterns, word string
		want           []int
	}{
		{".a1", "aaaa", []int{1}}, {".1a", "aaaa", nil}, {"1a.", "aaaa", []int{3}}, {"a1.", "aaaa", nil}, {".a1 1a.", "aaaa", []int{1, 3}},
		{".ab1", "abab", []int{2}}, {".b1", "abab", nil}, {"1ab.", "abab", []int{2}}, {"1a.", "abab", nil}, {"1b.", "abab", []int{3}},
		{".a1b.", "ab", []int{1}}, {".a1b.", "abb", nil}, {".a1b.", "aab", nil}, {".a1b.", "abab", nil},
		{"a1b .a2b", "abab", []int{3}}, {"a1b a2b.", "abab", []int{1}}, {"a1b .a2b a2b.", "ababab", []int{3}}, {"a2b .a1b", "abab", nil}, {"a2b .a3b", "abab", []int{1}},
		{".\u00e91", "\u00e9\u00e9\u00e9", []int{1}}, {"1\u00e9.", "\u00e9\u00e9\u00e9", []int{2}},
		{".a1", "BaB", nil}, {".a1", "AaB", []int{1}},
	} {
		made(t, strings.Fields(c.patterns), nil, 1, 1).wantPoints(t, c.word, c.want...)
	}
}

// P17.2: a pattern counts wherever it stands, also over itself.
func TestPointsSeveralTimes(t *testing.T) {
	for _, c := range []struct {
		patterns, word string
		want           []int
	}{
		{"a1b", "abxabab", []int{1, 4, 6}}, {"a1a", "aaaa", []int{1, 2, 3}}, {"a1ba", "ababa", []int{1, 3}}, {"1aba2", "ababa", []int{2}}, {"1aba4", "abababa", []int{2, 4}}, {"3aba4", "abababa", []int{2, 4}}, {"3abab4", "abababab", []int{2}}, {"1aba ba2", "ababa", []int{2}}, {"1aba b2a", "ababa", nil},
		{"aa1aa", "aaaaaa", []int{2, 3, 4}}, {"1a2a3", "aaaaa", []int{2, 3, 4}}, {"a1b ab1x b2a", "ababx", []int{1, 3, 4}},
		{"abcd a1bcx bc1", "abcabcd", []int{3, 6}}, // what isn't finished doesn't count
	} {
		made(t, strings.Fields(c.patterns), nil, 1, 1).wantPoints(t, c.word, c.want...)
	}
}

// P17.2: the ends of a word have a level, too, but no hyphen comes there.
func TestNoPointsAtTheEnds(t *testing.T) {
	made(t, []string{"1a1", ".1a", "a1."}, nil, 1, 1).wantPoints(t, "a")
	made(t, []string{"1ab1", ".1a", "b1."}, nil, 1, 1).wantPoints(t, "ab")
	made(t, []string{".1a1", "1b1."}, nil, 1, 1).wantPoints(t, "ab", 1)
}

// P17.2: a word as long as may be, where each pattern stands at many places.
func TestPointsOfManyPatterns(t *testing.T) {
	var patterns []string
	for n := 1; n <= 127; n++ {
		patterns = append(patterns, strings.Repeat("a", n)+"1"+strings.Repeat("a", n-1)+"b")
	}
	x := made(t, patterns, nil, 1, 1)
	x.wantPoints(t, strings.Repeat("a", 255)+"b", upTo(129, 255)...)
	x.wantPoints(t, strings.Repeat("a", 9)+"b", 5, 6, 7, 8, 9)
}

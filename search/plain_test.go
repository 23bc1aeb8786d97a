package search_test

import (
	"regexp"
	"slices"
	"strings"
	"testing"

	"reglet/api"
	"reglet/search"
)

var mustQuote = regexp.MustCompile(`[.*+?|()\[\]{}\\]`)

// plainPlaces: by trying each place.
func plainPlaces(s, word string) []int {
	var list []int
	for at := 0; word != "" && at < len(s); {
		if strings.HasPrefix(s[at:], word) {
			list = append(list, at)
			at += len(word)
		} else {
			at++
		}
	}
	return list
}

// wantPlain holds Plain against numbers that are written out, and against the plain ones.
func wantPlain(t testing.TB, s, word string, want ...int) {
	t.Helper()
	if got := search.Plain(s, word); !slices.Equal(got, want) {
		t.Errorf("Plain(%.300q, %.300q) = %d, not %d", s, word, got, want)
	}
	if got := plainPlaces(s, word); !slices.Equal(got, want) {
		t.Errorf("by the plain way Plain(%.300q, %.300q) = %d, not %d", s, word, got, want)
	}
}

// P18.4: Plain of words that reach back into one another, of an empty word, of a word longer than the text, of runes beyond one byte.
func TestPlain(t *testing.T) {
	wantPlain(t, "", "")
	wantPlain(t, "abc", "")
	wantPlain(t, "", "a")
	wantPlain(t, "a", "ab")
	wantPlain(t, "abc", "abcd")
	wantPlain(t, "abc", "x")
	wantPlain(t, "abc", "abc", 0)
	wantPlain(t, "abc", "bc", 1)
	wantPlain(t, "aaa", "a", 0, 1, 2)
	wantPlain(t, "aaa", "aa", 0)
	wantPlain(t, "aaaaa", "aa", 0, 2)
	wantPlain(t, "aaaaaa", "aaa", 0, 3)
	wantPlain(t, "ababa", "aba", 0)
	wantPlain(t, "abababa", "aba", 0, 4)
	wantPlain(t, "xababab", "abab", 1)
	wantPlain(t, "aab", "ab", 1)
	wantPlain(t, "aaab", "aab", 1)
	wantPlain(t, "ababac", "abac", 2)
	wantPlain(t, "abaabaabb", "abaabb", 3)
	wantPlain(t, "aabaabaaaab", "aabaaaab", 3)
	wantPlain(t, "aabaacaabaabaad", "aabaabaad", 6)
	wantPlain(t, "a.b*a.b*", ".b*", 1, 5)
	wantPlain(t, "a\nb\nc", "\n", 1, 3)
	wantPlain(t, "\u00e9a\u00e9\u00e9", "\u00e9", 0, 3, 5)
	wantPlain(t, "\u00e8\u00e9", "\u00e9", 2) // whose first bytes are alike
	wantPlain(t, "\u4e2d\u6587\u4e2d\u6587\u4e2d", "\u4e2d\u6587\u4e2d", 0)
	wantPlain(t, "\U0001f600a\U0001f601a", "\U0001f601", 5)
	wantPlain(t, strings.Repeat("a", 1000), strings.Repeat("a", 400), 0, 400)
	wantPlain(t, strings.Repeat("a", 300)+"b", strings.Repeat("a", 256)+"b", 44)
	wantPlain(t, "abc", strings.Repeat("abc", 100000))
}

// P18.4: Plain of every short text and word.
func TestEachPlain(t *testing.T) {
	var list []string
	for n := range 9 {
		for k := range 1 << n {
			s := ""
			for bit := range n {
				s += string("ab"[k>>bit&1])
			}
			list = append(list, s)
		}
	}
	several := 0
	for _, s := range list {
		for _, word := range list {
			want := plainPlaces(s+s, word)
			if got := search.Plain(s+s, word); !slices.Equal(got, want) {
				t.Fatalf("Plain(%q, %q) = %d, not %d", s+s, word, got, want)
			}
			if len(word) > 3 && len(want) > 2 {
				several++
			}
		}
	}
	if several < 50 {
		t.Errorf("only %d long words came three times", several)
	}
}

// P18.4: Quote of each sign, of all other runes of a byte, and of runes beyond one byte.
func TestQuote(t *testing.T) {
	for _, c := range [][2]string{
		{"", ""}, {"abc", "abc"}, {"a.b", `a\.b`}, {".", `\.`}, {"*", `\*`}, {"+", `\+`}, {"?", `\?`}, {"|", `\|`}, {"(", `\(`}, {")", `\)`}, {"[", `\[`}, {"]", `\]`}, {"{", `\{`}, {"}", `\}`}, {`\`, `\\`}, {`\n`, `\\n`}, {`\\`, `\\\\`},
		{".*+?|()[]{}\\", `\.\*\+\?\|\(\)\[\]\{\}\\`}, {"\n\t", "\n\t"}, {"-^$/", "-^$/"}, {"\u00e9\u4e2d\U0001f600\u00ff", "\u00e9\u4e2d\U0001f600\u00ff"}, {"\u00e9.\u4e2d*", "\u00e9\\.\u4e2d\\*"}, {"[a-z]+", `\[a-z\]\+`},
	} {
		if got := search.Quote(c[0]); got != c[1] {
			t.Errorf("Quote(%q) = %q, not %q", c[0], got, c[1])
		}
	}
	for r := range rune(0x300) {
		for _, s := range []string{string(r), "a" + string(r) + "b", strings.Repeat(string(r), 3)} {
			if got, want := search.Quote(s), mustQuote.ReplaceAllString(s, `\$0`); got != want {
				t.Errorf("Quote(%q) = %q, not %q", s, got, want)
			}
		}
	}
}

// wantQuoted: the pattern of Quote of a text takes that text, and of no other one more than it.
func wantQuoted(t testing.TB, s string, others []string) {
	t.Helper()
	p, e, _ := search.New(search.Quote(s))
	if e != api.OK {
		t.Fatalf("New(Quote(%q)): %d", s, e)
	}
	if !p.Match(s) || p.Longest(s+"x") != len(s) {
		t.Errorf("the pattern of Quote(%q) takes %d bytes of it", s, p.Longest(s))
	}
	for _, other := range others {
		want := -1
		if strings.HasPrefix(other, s) {
			want = len(s)
		}
		if got := p.Longest(other); got != want || p.Match(other) != (s == other) {
			t.Errorf("the pattern of Quote(%q) takes %d bytes of %q", s, got, other)
		}
	}
}

// P18.5: of every short text of the signs.
func TestQuoted(t *testing.T) {
	var list []string
	eachText(2, func(s string) { list = append(list, s) })
	for _, s := range list {
		wantQuoted(t, s, list)
	}
	for r := range rune(0x200) {
		s := "a" + string(r) + "a"
		wantQuoted(t, s, []string{"aa", "aba", "a" + string(r), "a\\" + string(r) + "a", string(r), "a" + string(r) + string(r) + "a", "", "a\na", search.Quote(s) + " "})
	}
	for _, s := range []string{strings.Repeat("a", 256), strings.Repeat("*", 128), strings.Repeat("(", 100), strings.Repeat("\\n", 60), strings.Repeat("\U0001f600", 64), strings.Repeat("[^a]", 40), "a\nb\tc"} {
		wantQuoted(t, s, []string{s[:len(s)-1], "x" + s, s + s, "", strings.Repeat("a", 255)})
	}
	for _, s := range []string{strings.Repeat("a", 257), strings.Repeat("*", 129)} { // no pattern is so long
		wantNew(t, search.Quote(s), api.ErrLong, 0)
	}
}

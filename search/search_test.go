package search_test

import (
	"slices"
	"strings"
	"testing"

	"reglet/api"
	"reglet/search"
)

// wantAll holds All of a right text against places that are written out, and all that is asked against the plain way.
func (x both) wantAll(t testing.TB, s string, want ...[2]int) {
	t.Helper()
	if got := collected(x.pattern, s, -1); !slices.Equal(got, want) {
		t.Errorf("All(%q) of %q: %d, not %d", s, x.text, got, want)
	}
	x.agree(t, s)
}

// The chapter's examples.
func TestExamples(t *testing.T) {
	p := made(t, "a+b|c")
	if a, b, ok := p.pattern.Find("xaabc", 0); a != 1 || b != 4 || !ok {
		t.Errorf("Find: %d, %d, %v", a, b, ok)
	}
	if a, b, ok := p.pattern.Find("xaabc", 4); a != 4 || b != 5 || !ok {
		t.Errorf("Find: %d, %d, %v", a, b, ok)
	}
	p.wantAll(t, "xaabc", [2]int{1, 4}, [2]int{4, 5})
	wantNew(t, "a**", api.OK, 0)
	wantNew(t, "*a", api.ErrRegex, 0)
	wantNew(t, "(a", api.ErrRegex, 2)
	wantNew(t, "[b-a]", api.ErrRegex, 2)
}

// P18.2: Longest, and with it Match: the greatest number counts, whichever way it is taken.
func TestLongest(t *testing.T) {
	for _, c := range []struct {
		pattern, s string
		want       int
	}{
		{"", "", 0}, {"", "abc", 0}, {"()", "a", 0}, {"|", "a", 0}, {"a", "", -1}, {"a", "b", -1}, {"a", "a", 1}, {"a", "ab", 1}, {"a", "ba", -1}, {"ab", "ab", 2}, {"ab", "a", -1}, {"ab", "ac", -1}, {"ab", "abc", 2},
		{"a|ab|abc", "abcd", 3}, {"abc|ab|a", "abcd", 3}, {"a|abc", "abd", 1}, {"|a", "a", 1}, {"a|", "a", 1}, {"a|", "b", 0}, {"ab|c|", "abc", 2}, {"(a|ab)(c|bcd)", "abcd", 4}, {"(a|ab)(c|bcd)", "abc", 3}, {"(a|ab)(bc|c)?", "abc", 3},
		{"a*", "", 0}, {"a*", "b", 0}, {"a*", "aaab", 3}, {"a+", "", -1}, {"a+", "b", -1}, {"a+", "aaab", 3}, {"a?", "aa", 1}, {"a?", "", 0}, {"a?", "b", 0}, {"a**", "aa", 2}, {"a*+", "aa", 2}, {"a*+", "", 0}, {"a?+", "aaa", 3}, {"a+?", "aaa", 3}, {"a+?", "", 0}, {"a??", "aa", 1}, {"a++", "aab", 2}, {"a++", "", -1},
		{"(ab)*", "ababa", 4}, {"(ab)+", "ababa", 4}, {"(ab)?", "abab", 2}, {"(a*)*", "aab", 2}, {"(a*)+", "b", 0}, {"(a*)?", "aa", 2}, {"(a*b*)*", "abbac", 4}, {"(a?b?)*", "babac", 4}, {"()*", "a", 0}, {"()+", "a", 0}, {"(|a)+", "aaab", 3}, {"(a|)*", "aab", 2}, {"(|a)+b", "aab", 3}, {"(a*b?)+c", "aababac", 7},
		{"a*a", "aaa", 3}, {"a*ab", "aaab", 4}, {"a+a+", "a", -1}, {"a+a+", "aa", 2}, {"a?a?a?aaa", "aaa", 3}, {"a?a?a?aaa", "aaaaaaa", 6}, {"(aa|aaa)*", "aaaaa", 5}, {"(aa|aaa)+", "a", -1}, {"(aaa)*|(aa)*", "aaaa", 4}, {"(aaa|aaaaa)*", "aaaaaaa", 6}, {"a*b|a", "aaaa", 1}, {"a(bc)*|ab", "abcb", 3},
		{".", "a", 1}, {".", "\n", -1}, {".", "\u00e9", 2}, {".", "\U0001f600a", 4}, {".*", "ab\ncd", 2}, {".*", "\u4e2d\u00e9a", 6}, {"..", "\u4e2d", -1}, {".\n.", "a\nb", 3}, {`.\n.`, "a\nb", 3}, {".", "\r", 1}, {".", "\x00", 1}, {".", "\u2028", 3},
		{"[a]", "a", 1}, {"[a]", "b", -1}, {"[a-c]*", "abcd", 3}, {"[^a]", "a", -1}, {"[^a]", "\n", 1}, {"[^a]*", "b\n\u4e2da", 5}, {`[^\n]`, "\n", -1}, {`[\n]`, "\n", 1}, {"[\n]", "\n", 1}, {"[\\t-\r]*", "\t\n\v\f\r ", 5}, {"[a-a]", "a", 1}, {"[^^]", "^", -1}, {"[^^]", "a", 1}, {"[a^]*", "^a", 2}, {`[\^a]*`, "^a", 2},
		{"[]]", "]", 1}, {"[]a]*", "a]", 2}, {"[^]]", "]", -1}, {"[^]]", "a", 1}, {"[^]a]*", "b]", 1}, {"[]-a]*", "]^_`ab", 5}, {"[-a]*", "-a", 2}, {"[a-]*", "-a", 2}, {"[^-a]", "-", -1}, {"[^a-]", "-", -1}, {"[+--]*", "+,-.", 3}, {"[a-c-e]*", "abc-de", 4}, {"[--a]*", "-.a", 3}, {"[a-cx-z]*", "azbyd", 4}, {"[-]", "-", 1}, {"[--]", "-", 1}, {"[---]", "-", 1}, {"[^-]", "-", -1}, {`[a\-c]*`, "a-cb", 3}, {`[A-\]]*`, "A]\\^", 3}, {`[\[-\]]*`, "[\\]", 3}, {"[[]", "[", 1}, {"[*+?|(){}.]*", "*+?|(){}.a", 9}, {`[\\]`, `\`, 1},
		{"[\u00e0-\u00ff]*", "\u00e9\u00e0\u00ffa", 6}, {"[a-\U0001f600]*", "a\u4e2d\U0001f600\U0001f601", 8}, {"[^\u00e9]", "\u00e9", -1}, {"[^\u00e9]", "\u00e8", 2}, {"\u00e9+", "\u00e9\u00e9e", 4}, {"\u4e2d?\u6587", "\u4e2d\u6587", 6}, {"(\u00e9|\u00e9a)b", "\u00e9ab", 4}, {"\ufffd", "\ufffd", 3},
		{"-", "-", 1}, {"^", "^", 1}, {"a-z", "a-z", 3}, {"^a", "a", -1}, {"$", "$", 1}, {" ", " ", 1}, {"\t", "\t", 1}, {"\x00", "\x00", 1}, {`\.`, "a", -1}, {`\.`, ".", 1}, {`a\*`, "aa", -1}, {`a\*`, "a*", 2}, {"\n", "\n", 1}, {`\n+`, "\n\n\t", 2}, {`\t`, "\t", 1}, {`\-\^\ \"`, `-^ "`, 4},
	} {
		x := made(t, c.pattern)
		if got := x.pattern.Longest(c.s); got != c.want {
			t.Errorf("Longest(%q) of %q: %d, not %d", c.s, c.pattern, got, c.want)
		}
		if got := x.pattern.Match(c.s); got != (c.want == len(c.s)) {
			t.Errorf("Match(%q) of %q: %v", c.s, c.pattern, got)
		}
		x.agree(t, c.s)
	}
}

// P18.2: Find from below 0, 0, within a rune, the text's end and beyond it.
func TestFind(t *testing.T) {
	for _, c := range []struct {
		pattern, s string
		from       int
		a, b       int
		ok         bool
	}{
		{"a", "", 0, 0, 0, false}, {"", "", 0, 0, 0, true}, {"", "", -1, 0, 0, true}, {"", "", 1, 0, 0, false}, {"", "ab", 1, 1, 1, true}, {"", "ab", 2, 2, 2, true}, {"", "ab", 3, 0, 0, false}, {"", "ab", minInt, 0, 0, true}, {"", "ab", maxInt, 0, 0, false},
		{"a", "bab", -5, 1, 2, true}, {"a", "bab", 0, 1, 2, true}, {"a", "bab", 1, 1, 2, true}, {"a", "bab", 2, 0, 0, false}, {"a", "bab", 3, 0, 0, false}, {"a", "bab", 4, 0, 0, false}, {"a", "bab", minInt, 1, 2, true}, {"a", "a", -1, 0, 1, true},
		{"a*", "baab", 0, 0, 0, true}, {"a*", "baab", 1, 1, 3, true}, {"a*", "baab", 2, 2, 3, true}, {"a*", "baab", 3, 3, 3, true}, {"a*", "baab", 4, 4, 4, true}, {"a*", "baab", 5, 0, 0, false},
		{"e", "\u00e9e", 0, 2, 3, true}, {"e", "\u00e9e", 1, 0, 0, false}, {"e", "\u00e9e", 2, 2, 3, true}, {"", "\u00e9e", 1, 0, 0, false}, {".", "\U0001f600a", 1, 0, 0, false}, {".", "\U0001f600a", 3, 0, 0, false}, {".", "\U0001f600a", 4, 4, 5, true}, {".*", "\U0001f600a", 0, 0, 5, true}, {"\u00e9", "a\u4e2d\u00e9", 1, 4, 6, true}, {"\u00e9", "a\u4e2d\u00e9", 2, 0, 0, false},
		{"abcd|c", "abcd", 0, 0, 4, true}, {"abcd|c", "abce", 0, 2, 3, true}, {"abcd|bc|cde", "abce", 0, 1, 3, true}, {"c|bcd|abcde", "abcdx", 0, 1, 4, true}, {"a*b|a", "aaac", 0, 0, 1, true}, {"a*b|a", "aaab", 0, 0, 4, true}, {"a*b|c", "aaac", 0, 3, 4, true}, {"a*b", "aaac", 0, 0, 0, false},
		{".+", "\n\nab\nc", 0, 2, 4, true}, {"[^a]+", "a\nb", 0, 1, 3, true}, {"a\n", "aa\n", 0, 1, 3, true}, {"b|", "ab", 0, 0, 0, true}, {"b|", "ab", 1, 1, 2, true},
	} {
		x := made(t, c.pattern)
		if a, b, ok := x.pattern.Find(c.s, c.from); a != c.a || b != c.b || ok != c.ok {
			t.Errorf("Find(%q, %d) of %q: %d, %d, %v, not %d, %d, %v", c.s, c.from, c.pattern, a, b, ok, c.a, c.b, c.ok)
		}
		x.agree(t, c.s)
	}
}

// P18.3: All where what is taken is empty, touches, ends the text; and Replace of these.
func TestAll(t *testing.T) {
	type places = [][2]int
	for _, c := range []struct {
		pattern, s string
		want       places
	}{
		{"a", "", nil}, {"a", "bbb", nil}, {"a", "aaa", places{{0, 1}, {1, 2}, {2, 3}}}, {"a", "bab", places{{1, 2}}}, {"a", "ba", places{{1, 2}}}, {"aa", "aaaaa", places{{0, 2}, {2, 4}}}, {"a+", "aabaa", places{{0, 2}, {3, 5}}}, {"aba", "ababa", places{{0, 3}}},
		{"", "", places{{0, 0}}}, {"", "ab", places{{0, 0}, {1, 1}, {2, 2}}}, {"", "\u00e9\U0001f600", places{{0, 0}, {2, 2}, {6, 6}}}, {"()*", "a", places{{0, 0}, {1, 1}}},
		{"a*", "", places{{0, 0}}}, {"a*", "aa", places{{0, 2}, {2, 2}}}, {"a*", "baab", places{{0, 0}, {1, 3}, {3, 3}, {4, 4}}}, {"a*", "aab", places{{0, 2}, {2, 2}, {3, 3}}}, {"a?", "aab", places{{0, 1}, {1, 2}, {2, 2}, {3, 3}}}, {"a|", "\u00e9a\u00e9", places{{0, 0}, {2, 3}, {3, 3}, {5, 5}}},
		{"a|ab", "abab", places{{0, 2}, {2, 4}}}, {"a|b", "abc", places{{0, 1}, {1, 2}}}, {"a*b|a", "aab", places{{0, 3}}}, {"a*b|a", "aaba", places{{0, 3}, {3, 4}}}, {"a*b|a", "aaa", places{{0, 1}, {1, 2}, {2, 3}}}, {"abcd|c", "abccabcd", places{{2, 3}, {3, 4}, {4, 8}}},
		{".", "\u00e9\n\u4e2d", places{{0, 2}, {3, 6}}}, {".*", "ab\ncd", places{{0, 2}, {2, 2}, {3, 5}, {5, 5}}}, {".+", "ab\ncd\n", places{{0, 2}, {3, 5}}}, {"[^a]*", "a\nb", places{{0, 0}, {1, 3}, {3, 3}}}, {`\n`, "\n\n", places{{0, 1}, {1, 2}}}, {".*\n?", "a\nb\n", places{{0, 2}, {2, 4}, {4, 4}}},
		{"(ab|ba)+", "abbaab ba", places{{0, 6}, {7, 9}}},
	} {
		x := made(t, c.pattern)
		x.wantAll(t, c.s, c.want...)
		for _, by := range []string{"", "-", "longer than what is taken", "\u00e9", c.s} {
			var want []api.Edit
			for _, w := range c.want {
				want = append(want, api.Edit{From: w[0], To: w[1], Text: by})
			}
			if got := x.pattern.Replace(c.s, by); !slices.Equal(got, want) {
				t.Errorf("Replace(%q, %q) of %q: %v, not %v", c.s, by, c.pattern, got, want)
			}
		}
	}
}

// P18.3: All gives out no more when it is told to stop, and all of it again when it is ranged over again.
func TestAllStops(t *testing.T) {
	for _, c := range []struct{ pattern, s string }{{"a", "aaaa"}, {"a*", "baabaab"}, {"", "ab\u00e9d"}, {"a+", "aabaa"}} {
		x := made(t, c.pattern)
		all := x.plain.all(c.s)
		for stop := 1; stop <= len(all)+1; stop++ {
			if got := collected(x.pattern, c.s, stop); !slices.Equal(got, all[:min(stop, len(all))]) {
				t.Errorf("All(%q) of %q, told to stop behind %d: %d", c.s, c.pattern, stop, got)
			}
			n := 0
			for from, to := range x.pattern.All(c.s) {
				if all[n] != [2]int{from, to} {
					t.Errorf("All(%q) of %q: %d, %d as number %d", c.s, c.pattern, from, to, n)
				}
				if n++; n == stop {
					break
				}
			}
		}
		seq := x.pattern.All(c.s)
		for range 2 {
			var got [][2]int
			for from, to := range seq {
				got = append(got, [2]int{from, to})
			}
			if !slices.Equal(got, all) {
				t.Errorf("All(%q) of %q, ranged over again: %d", c.s, c.pattern, got)
			}
		}
	}
}

// P18.2: patterns of as many runes, points and classes as there may be, against the plain way.
func TestManyTakers(t *testing.T) {
	var s strings.Builder
	for k := range 100 {
		s.WriteString(string(rune('\u4e00' + k)))
	}
	for _, pattern := range []string{strings.Repeat("a", 256), strings.Repeat("a?", 128), strings.Repeat("a|", 127) + "b", "(" + strings.Repeat("a", 126) + "|" + strings.Repeat("b", 126) + ")*", strings.Repeat("[ab]", 64), s.String()[:255] + "+", strings.Repeat("a*", 128), strings.Repeat("ab?", 85)} {
		x := made(t, pattern)
		for _, text := range []string{"", "a", "b", strings.Repeat("a", 126), strings.Repeat("a", 127) + "b", strings.Repeat("a", 255), strings.Repeat("a", 256), strings.Repeat("ab", 128), s.String()[:255], strings.Repeat("b", 252)} {
			if got, want := x.pattern.Longest(text), x.plain.longest(text); got != want {
				t.Errorf("Longest(%.300q) of %q: %d, not %d", text, pattern, got, want)
			}
			if got := x.pattern.Match(text); got != (x.plain.longest(text) == len(text)) {
				t.Errorf("Match(%.300q) of %q: %v", text, pattern, got)
			}
		}
	}
	if p, e, _ := search.New(strings.Repeat("a", 256)); e != api.OK || p.States() != 256 {
		t.Errorf("%d", e)
	}
}

package hyphen_test

import (
	"slices"
	"strings"
	"testing"

	"reglet/hyphen"
)

// P17.3: Words of the empty text, of texts with none, at both ends, side by side with signs between, with runes beyond one byte.
func TestWords(t *testing.T) {
	for _, c := range []struct {
		s    string
		want [][2]int
	}{
		{"", nil}, {" ", nil}, {"-", nil}, {"123 .,;\n\t", nil}, {"\u00d7\u00f7\u00ad\u200b\u2010\u2028\u202f\u2060\ufeff\u00a0\u00bf", nil},
		{"a", [][2]int{{0, 1}}}, {"ab", [][2]int{{0, 2}}}, {"hyphenation", [][2]int{{0, 11}}}, {"ABC", [][2]int{{0, 3}}},
		{" a", [][2]int{{1, 2}}}, {"a ", [][2]int{{0, 1}}}, {" ab ", [][2]int{{1, 3}}}, {"..ab..", [][2]int{{2, 4}}},
		{"a b", [][2]int{{0, 1}, {2, 3}}}, {"ab-cd", [][2]int{{0, 2}, {3, 5}}}, {"a1b2c", [][2]int{{0, 1}, {2, 3}, {4, 5}}}, {"a  b", [][2]int{{0, 1}, {3, 4}}}, {"ab\ncd\n", [][2]int{{0, 2}, {3, 5}}},
		{"ab\u00adcd", [][2]int{{0, 2}, {4, 6}}}, {"\u00e9\u4e2d\U0001f600", [][2]int{{0, 9}}}, {"\u00d7\u00e9\u00f7\u4e2d", [][2]int{{2, 4}, {6, 9}}}, {"a\u200bb", [][2]int{{0, 1}, {4, 5}}},
		{"\ufeffa\u00a0b\u202f", [][2]int{{3, 4}, {6, 7}}}, {"it's", [][2]int{{0, 2}, {3, 4}}}, {"\ufffd", [][2]int{{0, 3}}},
		{strings.Repeat("a", 300) + " b", [][2]int{{0, 300}, {301, 302}}},
	} {
		if got := hyphen.Words(c.s); !slices.Equal(got, c.want) {
			t.Errorf("Words(%q) = %d, not %d", c.s, got, c.want)
		}
		if got := wordsOf(c.s); !slices.Equal(got, c.want) {
			t.Errorf("by the plain way Words(%q) = %d, not %d", c.s, got, c.want)
		}
	}
}

// P17.3: Places and Put of right texts.
func TestPlacesAndPut(t *testing.T) {
	x := made(t, []string{"1na", "n2at", "1\u00e9", "\u4e2d1\u6587"}, []string{"ta-ble", "a-b"}, 1, 2)
	y := made(t, nil, []string{"ta-ble", "a-b"}, 1, 1)
	for _, c := range []struct {
		x      both
		s      string
		places []int
		put    string
	}{
		{x, "", nil, ""}, {x, " \n", nil, " \n"}, {x, "table", []int{2}, "ta\u00adble"}, {x, "Table.", []int{2}, "Ta\u00adble."}, {x, " table table-table\n", []int{3, 9, 15}, " ta\u00adble ta\u00adble-ta\u00adble\n"},
		{x, "hyphenation, Hyphenation", []int{5, 18}, "hyphe\u00adnation, Hyphe\u00adnation"}, {x, "no-thing here", nil, "no-thing here"},
		{x, "\u00e9\u00e9\u00e9\u00e9\u00e9", []int{2, 4, 6}, "\u00e9\u00ad\u00e9\u00ad\u00e9\u00ad\u00e9\u00e9"}, {x, "\u00d7\u4e2d\u6587\u4e2d\u00d7\u4e2d\u6587", []int{5}, "\u00d7\u4e2d\u00ad\u6587\u4e2d\u00d7\u4e2d\u6587"},
		{x, "ta\u00adble", nil, "ta\u00adble"}, {x, "table\u00adtable", []int{2, 9}, "ta\u00adble\u00adta\u00adble"}, {x, "ab", nil, "ab"},
		{y, "ab", []int{1}, "a\u00adb"}, {y, "ab ab", []int{1, 4}, "a\u00adb a\u00adb"}, {y, "abab", nil, "abab"},
	} {
		if got := c.x.book.Places(c.s); !slices.Equal(got, c.places) {
			t.Errorf("Places(%q) = %d, not %d", c.s, got, c.places)
		}
		if got := c.x.book.Put(c.s); got != c.put {
			t.Errorf("Put(%q) = %q, not %q", c.s, got, c.put)
		}
		c.x.agree(t, c.s)
	}
}

// P17.3: of a text that isn't right no Places, and Put leaves it as it is, however many words it has.
func TestPlacesOfWrongTexts(t *testing.T) {
	x := made(t, []string{"1a", "1\ufffd"}, []string{"ta-ble"}, 1, 1)
	for _, s := range []string{"\xff", "table\xff", "\xfftable", "table \xff table", "aaa\x80", "\xc3 aaa", "aaa \xed\xa0\x80", "\xc0\x80aaa", "aaa\xf4\x90\x80\x80", "table\u00ad\xe4\xb8"} {
		if l := x.book.Places(s); len(l) != 0 {
			t.Errorf("Places(%q) = %d", s, l)
		}
		if p := x.book.Put(s); p != s {
			t.Errorf("Put(%q) = %q", s, p)
		}
		x.agree(t, s)
	}
}

// P17.3: a word that is too long has no places, its neighbours have theirs.
func TestPlacesBesideLongWords(t *testing.T) {
	x := everywhere(t, 1, 1)
	long := strings.Repeat("a", 257)
	if l := x.book.Places("aa " + long + " aa"); !slices.Equal(l, []int{1, 262}) {
		t.Errorf("Places: %d", l)
	}
	if s := x.book.Put("aa " + long + " aa"); s != "a\u00ada "+long+" a\u00ada" {
		t.Errorf("Put: %q", s)
	}
	if l := x.book.Places("aa " + long[1:] + " aa"); len(l) != 257 {
		t.Errorf("%d Places", len(l))
	}
}

// P17.3: a text as long as a document's.
func TestLongTexts(t *testing.T) {
	x := made(t, []string{"1na", "n2at"}, []string{"ta-ble"}, 2, 2)
	const words, put = "hyphenation, a Table \u00e9\u4e2d-\n", "hyphe\u00adnation, a Ta\u00adble \u00e9\u4e2d-\n"
	s := strings.Repeat(words, 65536/len(words))
	if got := x.book.Put(s); got != strings.Repeat(put, 65536/len(words)) {
		t.Errorf("Put: %q ..", got[:100])
	}
	if got := hyphen.Strip(x.book.Put(s)); got != s {
		t.Errorf("Strip: %q ..", got[:100])
	}
	if n := len(hyphen.Words(s)); n != 4*(65536/len(words)) {
		t.Errorf("%d words", n)
	}
}

// P17.3: Strip of texts with no Soft, with one at each place, and with several in a row.
func TestStrip(t *testing.T) {
	for _, s := range []string{"", "a", "-", "abc", "ab-c d\n", "\u00e9\u4e2d\U0001f600", "\u00ac\u00ae\u2010\u200b", "\u03ad\u086d\u00c2a", "\u2b6d\uadad\uabad"} {
		if got := hyphen.Strip(s); got != s {
			t.Errorf("Strip(%q) = %q", s, got)
		}
		places := []int{len(s)}
		for at := range s {
			places = append(places, at)
		}
		for _, at := range places {
			for n := 1; n <= 3; n++ {
				soft := strings.Repeat("\u00ad", n)
				if got := hyphen.Strip(s[:at] + soft + s[at:]); got != s {
					t.Errorf("Strip(%q) = %q, not %q", s[:at]+soft+s[at:], got, s)
				}
				if got := hyphen.Strip(soft + s[:at] + soft + s[at:] + soft); got != s {
					t.Errorf("Strip of %q with %d softs at %d and both ends = %q", s, n, at, got)
				}
			}
		}
		everywhere := "\u00ad" + strings.Join(strings.Split(s, ""), "\u00ad") + "\u00ad"
		if got := hyphen.Strip(everywhere); got != s {
			t.Errorf("Strip(%q) = %q", everywhere, got)
		}
	}
}

// P17.4: Strip of Put leaves a text that has no Soft as it is: every short one, by books that put much in.
func TestStripOfPut(t *testing.T) {
	books := []both{
		made(t, []string{"1a", "1b", "1\u00e9"}, nil, 1, 1),
		made(t, []string{"1a", "b2a", ".a1", "1\u00e9."}, []string{"a-B", "\u00e9-a-b"}, 1, 1),
		made(t, nil, nil, 1, 1),
	}
	signs := []string{"a", "B", "\u00e9", " ", "-", "\u00c2", "\u4e2d", "\u00d7"}
	several := 0
	var see func(s string, left int)
	see = func(s string, left int) {
		for _, x := range books {
			put := x.book.Put(s)
			if got := hyphen.Strip(put); got != s {
				t.Errorf("Strip(%q) = %q, not %q", put, got, s)
			}
			if strings.Count(put, "\u00ad") > 1 {
				several++
			}
		}
		if left > 0 {
			for _, sign := range signs {
				see(s+sign, left-1)
			}
		}
	}
	see("", 5)
	if several < 1000 {
		t.Errorf("two hyphens came %d times", several)
	}
}

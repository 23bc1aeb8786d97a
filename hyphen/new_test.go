package hyphen_test

import (
	"strconv"
	"strings"
	"testing"

	"reglet/api"
	"reglet/hyphen"
)

// wantNew holds New's answer against one that is written out, and against the plain one.
func wantNew(t testing.TB, patterns, words []string, left, right int, want api.Errno, wantAt int) {
	t.Helper()
	b, e, at := hyphen.New(patterns, words, left, right)
	if e != want || at != wantAt || (b == nil) != (want != api.OK) {
		t.Errorf("New(%d patterns %.200q, %d words %.200q, %d, %d): %v, %d, %d, not %d, %d", len(patterns), patterns, len(words), words, left, right, b != nil, e, at, want, wantAt)
	}
	if e, at := fault(patterns, words, left, right); e != want || at != wantAt {
		t.Errorf("by the plain way New(%.200q, %.200q, %d, %d): %d, %d, not %d, %d", patterns, words, left, right, e, at, want, wantAt)
	}
}

// P17.1: left and right below 1, 1, 100 and above it, each alone and both.
func TestNewRange(t *testing.T) {
	for _, left := range []int{minInt, minInt + 1, -100, -1, 0, 1, 2, 50, 99, 100, 101, 256, maxInt - 1, maxInt} {
		for _, right := range []int{minInt, minInt + 1, -100, -1, 0, 1, 2, 50, 99, 100, 101, 256, maxInt - 1, maxInt} {
			want := api.ErrRange
			if left >= 1 && left <= 100 && right >= 1 && right <= 100 {
				want = api.OK
			}
			wantNew(t, nil, nil, left, right, want, 0)
			wantNew(t, []string{}, []string{}, left, right, want, 0)
			wantNew(t, []string{"1a"}, []string{"a-b"}, left, right, want, 0)
		}
	}
}

// P17.1: no patterns and no words.
func TestNewEmpty(t *testing.T) {
	x := made(t, nil, nil, 1, 1)
	for _, s := range []string{"", "a", "ab", "hyphenation", "a b", "\xff"} {
		x.wantPoints(t, s)
		x.agree(t, s)
	}
	if n := x.book.Size(); n < 1 {
		t.Errorf("Size: %d", n)
	}
}

// many: so many texts, all different, each letters with a sign ahead of the last one.
func many(n int, sign string) []string {
	list := make([]string, n)
	for k := range list {
		list[k] = string([]rune{'a' + rune(k%26), 'a' + rune(k/26%26), 'a' + rune(k/676)}) + sign + "x"
	}
	return list
}

// P17.1: MaxPatterns and one more of either; alike ones are counted, too.
func TestNewLong(t *testing.T) {
	same := make([]string, 8193)
	for k := range same {
		same[k] = "a"
	}
	for _, c := range []struct {
		patterns, words []string
		want            api.Errno
	}{
		{many(8192, "1"), nil, api.OK}, {nil, many(8192, "-"), api.OK}, {many(8192, "1"), many(8192, "-"), api.OK},
		{many(8193, "1"), nil, api.ErrLong}, {nil, many(8193, "-"), api.ErrLong}, {many(8193, "1"), many(8193, "-"), api.ErrLong},
		{many(8193, "1"), many(8192, "-"), api.ErrLong}, {many(8192, "1"), many(8193, "-"), api.ErrLong},
		{same[:8192], same[:8192], api.OK}, {same, nil, api.ErrLong}, {nil, same, api.ErrLong},
		{make([]string, 8193), nil, api.ErrLong}, {nil, make([]string, 8193), api.ErrLong}, // these would be none, too
		{make([]string, 1), make([]string, 8193), api.ErrLong}, {make([]string, 8193), make([]string, 1), api.ErrLong},
	} {
		wantNew(t, c.patterns, c.words, 1, 1, c.want, 0)
		wantNew(t, c.patterns, c.words, 0, 1, api.ErrRange, 0) // which the chapter names first
	}
}

// P17.1: of as many as there may be, each one counts.
func TestNewMost(t *testing.T) {
	x := made(t, many(8192, "1"), nil, 1, 1)
	y := made(t, nil, many(8192, "-"), 1, 1)
	for k, s := range many(8192, "") {
		if l := x.book.Points(s); len(l) != 1 || l[0] != 3 {
			t.Fatalf("Points(%q), pattern %d: %d", s, k, l)
		}
		if l := y.book.Points(s); len(l) != 1 || l[0] != 3 {
			t.Fatalf("Points(%q), word %d: %d", s, k, l)
		}
	}
}

func patternsThatMayBe() []string {
	return []string{
		"a", "z", "ab", "1a", "a1", "1a1", "a1b", "1a2b3", "0a", "a0b", "9a9b9", "a5b5c5",
		".a", "a.", ".a.", ".1a", "a1.", ".1a2.", ".1a2b3.", ".ab", "ab.",
		"\u00e9", "\u00c9", "1\u00e9", "\u00df1\u00ff", "\u00c0", "\u00d6", "\u00d8", "\u00f61\u00f8", "\u4e2d1\u6587", "\U0001f6001a", "1\ufffd", ".\u0410.", "\u0660", "1\u06602a",
		strings.Repeat("a", 256), "." + strings.Repeat("a", 254) + ".", strings.Repeat("1a", 128), strings.Repeat("\u00e9", 128), strings.Repeat("\u4e2d", 85) + "1",
		strings.Repeat("\U0001f600", 64), ".1" + strings.Repeat("\u00e9", 126) + "3.",
	}
}

func patternsThatMayNot() []string {
	return []string{
		"", ".", "..", "1", "12", ".1", "1.", ".1.", "-", " ", "\u00ad", // no letter
		"A", "aB", "Z1a", ".1X", "Ab", "\u00e9A", // a great letter
		"12a", "a12", "a12b", "a00b", ".12a", "a12.", "1a2b34", "123a", // two digits in a row
		"a.b", "..a", "a..", ".a.b", "a.b.", ".a.b.", ".a..", "..a.", "a.1b", "\u00e9.a", "1.", "\u00e9..", // a point within
		"1.a", "a.1", "1.a.", ".a.1", "1.1a", "a1.1", "0.a", "a.0", "1.a.1", // a digit ahead of a first point, behind a last one
		"\xff", "a\xff", "\xffa", "a\x80b", "1a\xc3", "a\xed\xa0\x80", "a\xc0\x80", "a\xf4\x90\x80\x80", "\xe4\xb8", // not right
		strings.Repeat("a", 257), "." + strings.Repeat("a", 255) + ".", strings.Repeat("1a", 128) + "1", strings.Repeat("\u00e9", 128) + "a", strings.Repeat("\u4e2d", 86), strings.Repeat("\U0001f600", 65), strings.Repeat("a", 70000), // too long
		"a b", "a-b", "a_", "a,", "a\n", "a\x00b", "a'", "\u00d7", "a\u00d7", "a\u00f7b", "a\u00adb", "a\u00a0", "a\u200bb", "a\u2010b", "a\ufeff", "\u2028a", "a\u2060", "a\u202fb", "a\u00bf", "\u00aaa", // another sign
	}
}

// among: a text between others.
func among(s string, ahead, behind []string) []string {
	return append(append(append([]string{}, ahead...), s), behind...)
}

// P17.1: each kind of pattern, alone, as the first of several and behind ones that are taken.
func TestNewPatterns(t *testing.T) {
	good := patternsThatMayBe()
	for _, s := range good {
		wantNew(t, []string{s}, nil, 2, 3, api.OK, 0)
	}
	wantNew(t, good, nil, 2, 3, api.OK, 0)
	for _, s := range patternsThatMayNot() {
		wantNew(t, []string{s}, nil, 2, 3, api.ErrPattern, 0)
		wantNew(t, among(s, nil, good), nil, 2, 3, api.ErrPattern, 0)
		wantNew(t, among(s, nil, patternsThatMayNot()), nil, 2, 3, api.ErrPattern, 0)
		wantNew(t, among(s, good, nil), nil, 2, 3, api.ErrPattern, len(good))
		wantNew(t, among(s, good[:3], patternsThatMayNot()), []string{"a"}, 2, 3, api.ErrPattern, 3)
	}
}

func wordsThatMayBe() []string {
	return []string{
		"a", "Z", "ab", "aB", "a-b", "A-B", "ta-ble", "a-b-c", "a-b-c-d-e", "Ta-Ble", "\u00e9", "\u00c9-\u00e9", "\u4e2d-\u6587", "a-\U0001f600", "\ufffd-a", "\u0660-a", "a\u2212b", "a\u2011b",
		strings.Repeat("a", 256), strings.Repeat("a-", 127) + "aa", strings.Repeat("\u00e9", 128), "a-" + strings.Repeat("\u00e9", 127), strings.Repeat("\u4e2d", 85) + "Z",
	}
}

func wordsThatMayNot() []string {
	return []string{
		"",                                                                                                         // no letter
		"-", "--", "-a", "-a-b", "a-", "a-b-", "a--b", "a-b--c", "a---b", "-a-", "-\u00e9", "\u00e9-", "A--\u00e9", // a hyphen first, last, twice in a row
		"a.", ".a", "1", "a1", "a1b", "a b", " a", "a ", "a\n", "a_b", "a'b", "a\x00", "\u00d7", "a-\u00f7", "a\u00adb", "a\u2010b", "\u00ad", "a\u200bb", "a\ufeffb", "a\u00bfb", // another sign
		"\xff", "a\xff", "a-\xff", "\xc3-a", "a\x80b", "\xed\xa0\x80", "a-\xc0\x80", "a-\xe4\xb8", // not right
		strings.Repeat("a", 257), strings.Repeat("a-", 128) + "a", strings.Repeat("\u00e9", 128) + "-", strings.Repeat("\u00e9", 128) + "a", strings.Repeat("\u4e2d", 86), strings.Repeat("a", 70000), // too long
	}
}

// P17.1: each kind of word, alone, as the first of several and behind ones that are taken; beside it patterns are counted.
func TestNewWords(t *testing.T) {
	good, patterns := wordsThatMayBe(), patternsThatMayBe()
	for _, s := range good {
		wantNew(t, nil, []string{s}, 2, 3, api.OK, 0)
	}
	wantNew(t, patterns, good, 2, 3, api.OK, 0)
	for _, s := range wordsThatMayNot() {
		wantNew(t, nil, []string{s}, 2, 3, api.ErrExcept, 0)
		wantNew(t, patterns, []string{s}, 2, 3, api.ErrExcept, len(patterns))
		wantNew(t, patterns[:5], among(s, nil, good), 2, 3, api.ErrExcept, 5)
		wantNew(t, nil, among(s, nil, wordsThatMayNot()), 2, 3, api.ErrExcept, 0)
		wantNew(t, nil, among(s, good, nil), 2, 3, api.ErrExcept, len(good))
		wantNew(t, patterns[:7], among(s, good[:2], []string{"-"}), 2, 3, api.ErrExcept, 9)
	}
}

// P17.1: two faults together: the one that the chapter names first, with its number.
func TestNewTwoFaults(t *testing.T) {
	long := make([]string, 8193)
	bad := []string{"a", "1"}
	for _, c := range []struct {
		patterns, words []string
		left, right     int
		want            api.Errno
		at              int
	}{
		{long, nil, 0, 1, api.ErrRange, 0}, {nil, long, 1, 101, api.ErrRange, 0}, {long, long, -1, 101, api.ErrRange, 0},
		{bad, nil, 0, 1, api.ErrRange, 0}, {bad, bad, 1, 0, api.ErrRange, 0}, {nil, bad, 101, 101, api.ErrRange, 0},
		{long, bad, 1, 1, api.ErrLong, 0}, {bad, long, 1, 1, api.ErrLong, 0}, {many(8193, "1"), bad, 1, 1, api.ErrLong, 0},
		{bad, bad, 1, 1, api.ErrPattern, 1}, {bad, []string{"-"}, 1, 1, api.ErrPattern, 1}, {[]string{"a", "b", "", "C"}, []string{""}, 1, 1, api.ErrPattern, 2},
		{[]string{"a"}, bad, 1, 1, api.ErrExcept, 2}, {nil, bad, 1, 1, api.ErrExcept, 1}, {[]string{"a", "b"}, []string{"", "-"}, 1, 1, api.ErrExcept, 2},
	} {
		wantNew(t, c.patterns, c.words, c.left, c.right, c.want, c.at)
	}
}

// signs: one of each kind that patterns and words know of.
func signs() []string {
	return []string{"a", "B", "\u00e9", "0", "1", ".", "-", " ", "\u00d7", "\xff"}
}

// eachText calls see with every text of up to so many of the signs.
func eachText(most int, see func(s string)) {
	var longer func(s string, left int)
	longer = func(s string, left int) {
		see(s)
		if left == 0 {
			return
		}
		for _, sign := range signs() {
			longer(s+sign, left-1)
		}
	}
	longer("", most)
}

// P17.1: every short text, as a pattern and as a word.
func TestNewOfAllShort(t *testing.T) {
	taken := map[api.Errno]int{}
	eachText(4, func(s string) {
		e, at := fault([]string{s}, nil, 1, 1)
		wantNew(t, []string{s}, nil, 1, 1, e, at)
		taken[e]++
		e, at = fault([]string{"a"}, []string{"b", s}, 1, 1)
		wantNew(t, []string{"a"}, []string{"b", s}, 1, 1, e, at)
		taken[e]++
	})
	if len(taken) != 3 || taken[api.OK] < 200 {
		t.Errorf("%v", taken)
	}
}

// P17.1: of two patterns with the same letters and points the later one counts, not the greater digits of both.
func TestLaterPattern(t *testing.T) {
	for _, c := range []struct {
		patterns string
		want     []int
	}{
		{"a1b", []int{1}}, {"a1b ab", nil}, {"ab a1b", []int{1}}, {"a9b a2b", nil}, {"a2b a1b", []int{1}}, {"a1b a2b a3b", []int{1}}, {"a3b a1b a0b", nil},
		{"a1b1 ab1c 1ab", nil},            // 1ab has a1b1's letters
		{"a1b .ab", []int{1}},             // but not .ab
		{".ab a1b", []int{1}},             //
		{"a1b ab.", []int{1}},             //
		{".a2b. .a1b .ab a1b", nil},       // the 2 of .ab. is greater
		{".a2b. .a1b .ab. a1b", []int{1}}, //
		{"a1b cb", []int{1}},              //
	} {
		made(t, strings.Fields(c.patterns), nil, 1, 1).wantPoints(t, "ab", c.want...)
	}
}

// P17.1: of two words with the same letters, by Lower, the later one counts.
func TestLaterWord(t *testing.T) {
	for _, c := range []struct {
		words string
		want  []int
	}{
		{"a-bc", []int{1}}, {"a-bc ab-c", []int{2}}, {"ab-c a-bc", []int{1}}, {"a-bc abc", nil}, {"abc a-b-c", []int{1, 2}},
		{"A-BC", []int{1}}, {"a-bc AB-C", []int{2}}, {"AB-C a-bc", []int{1}}, {"A-bC aB-c Abc", nil}, {"ab-c A-b-C", []int{1, 2}},
		{"a-bc ab-d b-c", []int{1}},
	} {
		for _, s := range []string{"abc", "ABC", "aBc"} {
			made(t, []string{"1c"}, strings.Fields(c.words), 1, 1).wantPoints(t, s, c.want...)
		}
	}
}

// P17.1: Lower knows the 26 alone: a great letter beyond one byte is another letter than its small one.
func TestNotLowered(t *testing.T) {
	x := made(t, []string{"\u00e91a", "\u00c9a1"}, []string{"\u00f6-\u00f6b", "\u00d6\u00d6-b"}, 1, 1)
	x.wantPoints(t, "\u00e9ab", 1)
	x.wantPoints(t, "\u00c9Ab", 2)
	x.wantPoints(t, "\u00f6\u00f6B", 1)
	x.wantPoints(t, "\u00d6\u00d6b", 2)
	x.wantPoints(t, "\u00d6\u00f6b")
}

// P17.3: Size is at least 1, whatever the patterns.
func TestSize(t *testing.T) {
	for k := range 20 {
		x := made(t, patternsThatMayBe()[:k], wordsThatMayBe()[:k], 1, 1)
		if n := x.book.Size(); n < 1 {
			t.Errorf("Size of %s patterns: %d", strconv.Itoa(k), n)
		}
	}
}

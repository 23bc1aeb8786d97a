package hyphen_test

import (
	"slices"
	"strings"
	"testing"

	"reglet/api"
	"reglet/hyphen"
)

// spoil changes a list, with its spare room.
func spoil[T any](list []T, by T) {
	list = list[:cap(list)]
	for k := range list {
		list[k] = by
	}
}

// ownTexts: words that are known, words that aren't, and texts of both.
func ownTexts() []string {
	return []string{"", "a", "table", "Table", "abab", "\u00e9ab", "a-b-table abab. \u00e9\u00e9ab TABLE", "table\xff"}
}

func ownBook(t testing.TB) both {
	t.Helper()
	return made(t, []string{"1a", "b3a", "1b."}, []string{"t-ab-le", "\u00e9\u00e9-ab"}, 1, 1)
}

// P2, rule 4: what Points, Places and Words tell is the asker's: nothing that is done to it is seen in the book or in another answer.
func TestToldIsNew(t *testing.T) {
	x := ownBook(t)
	for _, s := range ownTexts() {
		points, places, words := x.book.Points(s), x.book.Places(s), hyphen.Words(s)
		wantPoints, wantPlaces, wantWords := slices.Clone(points), slices.Clone(places), slices.Clone(words)
		spoil(x.book.Points(s), 77)
		spoil(x.book.Places(s), 77)
		spoil(hyphen.Words(s), [2]int{7, 7})
		if !slices.Equal(points, wantPoints) || !slices.Equal(places, wantPlaces) || !slices.Equal(words, wantWords) {
			t.Errorf("what was told of %q became %d, %d and %d", s, points, places, words)
		}
		spoil(points, -7)
		spoil(places, -7)
		spoil(words, [2]int{-7, -7})
		for _, s := range ownTexts() {
			x.agree(t, s)
		}
	}
}

// P2, rule 4: what was handed to New is not changed, with its spare room, and not kept: it may be changed behind.
func TestHandedIn(t *testing.T) {
	patterns := append(make([]string, 0, 8), "1a", "b3a", "1b.", "xx", "yy")
	words := append(make([]string, 0, 8), "t-ab-le", "\u00e9\u00e9-ab", "x-x", "yy")
	wantPatterns, wantWords := slices.Clone(patterns), slices.Clone(words)
	b, e, _ := hyphen.New(patterns[:3], words[:2], 1, 1)
	if e != api.OK {
		t.Fatal(e)
	}
	if !slices.Equal(patterns, wantPatterns) || !slices.Equal(words, wantWords) || patterns[:8][5] != "" || words[:8][4] != "" {
		t.Errorf("what was handed in became %q and %q", patterns[:8], words[:8])
	}
	x := both{b, plainOf(wantPatterns[:3], wantWords[:2], 1, 1)}
	for _, by := range []string{"", "a9b", "no pattern", "ta-ble"} {
		spoil(patterns, by)
		spoil(words, by)
		for _, s := range ownTexts() {
			x.agree(t, s)
		}
	}
}

// P2, rule 4: a refused New, too, leaves what it was handed.
func TestHandedToRefused(t *testing.T) {
	for _, c := range [][2]int{{0, 1}, {1, 1}} {
		patterns, words := []string{"1a", "B"}, []string{"A-b", "-"}
		if b, e, _ := hyphen.New(patterns, words, c[0], c[1]); b != nil || e == api.OK {
			t.Errorf("New: %v, %d", b, e)
		}
		if !slices.Equal(patterns, []string{"1a", "B"}) || !slices.Equal(words, []string{"A-b", "-"}) {
			t.Errorf("what was handed in became %q and %q", patterns, words)
		}
	}
}

// Rule 4: what a book answers hangs on no other book, and on no call ahead.
func TestBooksApart(t *testing.T) {
	list := []both{ownBook(t), made(t, []string{"2a", "a1b"}, []string{"ta-b-le"}, 2, 1), made(t, nil, nil, 1, 1), ownBook(t)}
	for range 3 {
		for _, s := range ownTexts() {
			for _, x := range list {
				x.agree(t, s)
			}
		}
	}
}

// P1: every call ends and none panics, whatever the bytes are; and of right texts each answers as the chapter's words say.
func TestRaw(t *testing.T) {
	x := made(t, []string{"1a", "1\u00e9", "\ufffd1\ufffd"}, []string{"a-a"}, 1, 1)
	eachText(4, func(s string) {
		x.agree(t, s)
		hyphen.Words(s)
		hyphen.Strip(s)
	})
	for a := range 256 {
		for b := range 256 {
			s := string([]byte{byte(a), byte(b)})
			for _, s := range []string{s, "a" + s, s + "\xad", "\xc2" + s} {
				x.agree(t, s)
				hyphen.Words(s)
				hyphen.Strip(s)
				hyphen.New([]string{s}, []string{s}, 1, 1)
			}
		}
	}
}

// P1: the greatest patterns and words that there may be, all different.
func TestMuch(t *testing.T) {
	var patterns, words []string
	for _, s := range many(8192, "") {
		patterns = append(patterns, "1"+s+strings.Repeat("a", 251))
		words = append(words, s+"-"+strings.Repeat("b", 250))
	}
	x := made(t, patterns, words, 1, 1)
	for _, s := range []string{words[0], words[8191]} {
		if l := x.book.Points(without(s, "-")); !slices.Equal(l, []int{4}) {
			t.Errorf("Points(%q): %d", s, l)
		}
	}
	if l := x.book.Places("b" + patterns[8191][1:]); !slices.Equal(l, []int{1}) {
		t.Errorf("Places: %d", l)
	}
	if l := x.book.Places(strings.Repeat("a", 65536)); len(l) != 0 {
		t.Errorf("Places: %d", l)
	}
}

// P1: New's answer beside an error is nil, and its calls end, too: as of a book that knows nothing.
func TestNilBook(t *testing.T) {
	b, _, _ := hyphen.New(nil, nil, 0, 0)
	if b.Size() < 1 || len(b.Points("table")) != 0 || len(b.Places("a table")) != 0 || b.Put("a table") != "a table" {
		t.Errorf("a nil Book: %d, %d, %d, %q", b.Size(), b.Points("table"), b.Places("a table"), b.Put("a table"))
	}
}

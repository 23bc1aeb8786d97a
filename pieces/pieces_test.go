package pieces_test

import (
	"slices"
	"strings"
	"testing"

	"reglet/api"
	"reglet/pieces"
)

// mixed: runes of one to four bytes, and line ends at the beginning, in a row, and at the end.
const mixed = "\na\u00e9\n\n\u20acb\U0001f600c\n"

// P3.1
func TestNew(t *testing.T) {
	full := strings.Repeat("\u20ac", api.MaxText/3) + "a"
	if len(full) != api.MaxText {
		t.Fatal(len(full))
	}
	for _, c := range []struct {
		s    string
		want api.Errno
	}{
		{"", api.OK}, {"a", api.OK}, {"\n", api.OK}, {"\x00", api.OK}, {"ab\n\u00e9\u20ac\U0001f600", api.OK}, {mixed, api.OK},
		{full, api.OK}, {strings.Repeat("\n", api.MaxText), api.OK},
		{full + "a", api.ErrSize}, {strings.Repeat("a", api.MaxText+1), api.ErrSize}, {strings.Repeat("a", 1<<20), api.ErrSize},
		{strings.Repeat("\xff", api.MaxText+1), api.ErrSize}, {full + "\xff", api.ErrSize}, // wrong bytes too: the size stands first
		{strings.Repeat("\xff", api.MaxText), api.ErrUTF8}, {full[1:], api.ErrUTF8}, {full[:api.MaxText-2], api.ErrUTF8},
		{"\xff", api.ErrUTF8}, {"a\x80", api.ErrUTF8}, {"\xc0\x80", api.ErrUTF8}, {"\xed\xa0\x80", api.ErrUTF8}, {"\xf4\x90\x80\x80", api.ErrUTF8},
	} {
		x, e := pieces.New(c.s)
		if e != c.want || (x == nil) != (e != api.OK) {
			t.Errorf("New of %d bytes, %.20q: %v, %d, not %d", len(c.s), c.s, x != nil, e, c.want)
		} else if x != nil {
			checkSame(t, x, &plain{text: c.s})
		}
	}
}

// P3.1 to P3.3, of texts as they begin.
func TestPlaces(t *testing.T) {
	for _, s := range []string{"", "a", "\n", "\u00e9", "\u20ac", "\U0001f600", "\n\n\n", "no line end", mixed} {
		x, m := made(t, s), &plain{text: s}
		checkSame(t, x, m)
		checkPlaces(t, x, m)
		checkParts(t, x, m)
	}
}

// The empty text, as it begins and when all was taken out.
func TestEmpty(t *testing.T) {
	emptied := made(t, mixed)
	if e := emptied.Insert(3, ""); e != api.ErrInside {
		t.Errorf("Insert: %d", e)
	}
	if e := emptied.Insert(4, mixed); e != api.OK {
		t.Errorf("Insert: %d", e)
	}
	if e := emptied.Delete(0, 2*len(mixed)); e != api.OK {
		t.Errorf("Delete: %d", e)
	}
	for _, x := range []*pieces.Text{made(t, ""), emptied, made(t, "").Copy(), emptied.Copy()} {
		if x.String() != "" || x.Len() != 0 || x.Lines() != 0 || x.Pieces() != 0 || x.Depth() != 0 {
			t.Errorf("%q, Len %d, Lines %d, Pieces %d, Depth %d", x.String(), x.Len(), x.Lines(), x.Pieces(), x.Depth())
		}
		for chunk := range x.Chunks() {
			t.Errorf("chunk %q", chunk)
		}
		checkPlaces(t, x, &plain{})
		checkParts(t, x, &plain{})
		if e := x.Insert(0, "\u00e9\n"); e != api.OK || x.String() != "\u00e9\n" || x.Pieces() != 1 || x.Depth() != 1 {
			t.Errorf("Insert: %d, %q, Pieces %d, Depth %d", e, x.String(), x.Pieces(), x.Depth())
		}
	}
}

// P3.2: everywhere into a text of several pieces, and what it is refused.
func TestInsert(t *testing.T) {
	for _, at := range places(mixed + mixed) {
		for _, s := range []string{"", "x", "\n", "\u00e9\n\u20ac", "\U0001f600", "\x80", "a\xff"} {
			x, m := inPieces(t)
			if e, want := x.Insert(at, s), m.insert(at, s); e != want {
				t.Fatalf("Insert(%d, %q): %d, not %d", at, s, e, want)
			}
			checkSame(t, x, m)
			checkPlaces(t, x, m)
		}
	}
}

// P3.2: every part of a text of several pieces, and what it is refused.
func TestDelete(t *testing.T) {
	list := places(mixed + mixed)
	for _, from := range list {
		for _, to := range list {
			x, m := inPieces(t)
			if e, want := x.Delete(from, to), m.delete(from, to); e != want {
				t.Fatalf("Delete(%d, %d): %d, not %d", from, to, e, want)
			}
			checkSame(t, x, m)
		}
	}
}

// P3.2, P3.3: every part and every place of a text of several pieces.
func TestReadInPieces(t *testing.T) {
	x, m := inPieces(t)
	if x.Pieces() < 5 {
		t.Fatalf("%d Pieces", x.Pieces())
	}
	checkPlaces(t, x, m)
	checkParts(t, x, m)
}

// inPieces: the text mixed + mixed, put together of parts.
func inPieces(t *testing.T) (*pieces.Text, *plain) {
	t.Helper()
	x, m := made(t, "\n\U0001f600-c\n"), &plain{text: "\n\U0001f600-c\n"}
	for _, c := range []struct {
		at int
		s  string
	}{{1, "b"}, {1, "\u20ac"}, {0, mixed}, {17, "\u00e9\n\n"}, {17, "a"}} {
		if e, want := x.Insert(c.at, c.s), m.insert(c.at, c.s); e != api.OK || want != api.OK {
			t.Fatalf("Insert(%d, %q): %d, %d", c.at, c.s, e, want)
		}
	}
	from := strings.Index(m.text, "-")
	if e, want := x.Delete(from, from+1), m.delete(from, from+1); e != api.OK || want != api.OK {
		t.Fatalf("Delete: %d, %d", e, want)
	}
	if m.text != mixed+mixed {
		t.Fatalf("%q", m.text)
	}
	return x, m
}

// P3.2: each error where others stand behind it, and the sizes beside MaxText.
func TestOrderOfErrors(t *testing.T) {
	full := strings.Repeat("\u00e9", api.MaxText/2)
	more := strings.Repeat("a", api.MaxText+1)
	for _, c := range []struct {
		begin string
		at    int
		s     string
		want  api.Errno
	}{
		{full, api.MaxText + 1, "\xff" + more, api.ErrOffset}, {full, -1, "\xff", api.ErrOffset}, {full, -1, more, api.ErrOffset}, {"\u00e9", 3, "", api.ErrOffset},
		{full, 1, "\xff" + more, api.ErrInside}, {full, 1, "a", api.ErrInside}, {full, 1, "", api.ErrInside},
		{full, 2, more + "\xff", api.ErrUTF8}, {full, 0, "\xff", api.ErrUTF8}, {"", 0, more + "\xe2\x82", api.ErrUTF8},
		{full, 0, "a", api.ErrSize}, {full, api.MaxText, "\n", api.ErrSize}, {"", 0, more, api.ErrSize}, {"a", 1, more[1:], api.ErrSize}, {"ab", 2, more[2:], api.ErrSize},
		{full, 2, "", api.OK}, {full, api.MaxText, "", api.OK}, {"", 0, more[1:], api.OK}, {"a", 1, more[2:], api.OK}, {full[2:], 6, "\u00e9", api.OK},
	} {
		x, m := made(t, c.begin), &plain{text: c.begin}
		m.insert(c.at, c.s)
		if e := x.Insert(c.at, c.s); e != c.want {
			t.Errorf("Insert(%d, %d bytes) into %d bytes: %d, not %d", c.at, len(c.s), len(c.begin), e, c.want)
		}
		if x.String() != m.text || x.Len() != len(m.text) || x.Pieces() > 1+2*m.edits {
			t.Errorf("Insert(%d, %d bytes) into %d bytes: now %d", c.at, len(c.s), len(c.begin), x.Len())
		}
	}
	for _, c := range []struct {
		from, to int
		want     api.Errno
	}{
		{-1, 1, api.ErrOffset}, {1, 5, api.ErrOffset}, {3, 1, api.ErrOffset}, {4, 2, api.ErrOffset}, {5, 5, api.ErrOffset}, {-1, -1, api.ErrOffset}, {5, 1, api.ErrOffset},
		{1, 1, api.ErrInside}, {1, 2, api.ErrInside}, {0, 3, api.ErrInside}, {1, 3, api.ErrInside}, {2, 3, api.ErrInside},
		{0, 0, api.OK}, {2, 2, api.OK}, {4, 4, api.OK}, {0, 2, api.OK}, {2, 4, api.OK}, {0, 4, api.OK},
	} {
		x, m := made(t, "\u00e9\u00e9"), &plain{text: "\u00e9\u00e9"}
		checkRead(t, x, m, c.from, c.to)
		m.delete(c.from, c.to)
		if _, e := x.Read(c.from, c.to); e != c.want {
			t.Errorf("Read(%d, %d): %d, not %d", c.from, c.to, e, c.want)
		}
		if e := x.Delete(c.from, c.to); e != c.want {
			t.Errorf("Delete(%d, %d): %d, not %d", c.from, c.to, e, c.want)
		}
		checkSame(t, x, m)
	}
}

// P3.3: line ends that fill the text, and a place within a rune, which Before takes.
func TestLineEnds(t *testing.T) {
	x := made(t, strings.Repeat("\n", api.MaxText))
	for _, n := range []int{0, 1, 777, api.MaxText - 1} {
		if at, ok := x.Newline(n); at != n || !ok {
			t.Errorf("Newline(%d): %d, %v", n, at, ok)
		}
	}
	for _, n := range []int{-1, api.MaxText, api.MaxText + 1} {
		if at, ok := x.Newline(n); at != 0 || ok {
			t.Errorf("Newline(%d): %d, %v", n, at, ok)
		}
	}
	for _, at := range []int{0, 1, 777, api.MaxText} {
		if n, e := x.Before(at); n != at || e != api.OK {
			t.Errorf("Before(%d): %d, %d", at, n, e)
		}
	}
	y := made(t, "\n\u20ac\n")
	if n, e := y.Before(2); n != 1 || e != api.OK {
		t.Errorf("Before within a rune: %d, %d", n, e)
	}
	if n, e := y.Before(6); n != 0 || e != api.ErrOffset {
		t.Errorf("Before beyond: %d, %d", n, e)
	}
}

// P3.4: chunks that are stopped after each number of them.
func TestChunksStop(t *testing.T) {
	x, m := inPieces(t)
	var all []string
	for chunk := range x.Chunks() {
		all = append(all, chunk)
	}
	for stop := 1; stop <= len(all); stop++ {
		var got []string
		x.Chunks()(func(chunk string) bool {
			got = append(got, chunk)
			return len(got) < stop
		})
		if !slices.Equal(got, all[:stop]) {
			t.Errorf("stopped after %d: %q", stop, got)
		}
	}
	again := x.Chunks()
	for range again {
		break
	}
	if got := slices.Collect(again); !slices.Equal(got, all) {
		t.Errorf("ranged over again: %q", got)
	}
	checkSame(t, x, m)
}

// Rule 4: what was told stays as it was told, whatever is done to the text, even while its chunks are given out.
func TestToldStays(t *testing.T) {
	x, m := inPieces(t)
	all, chunks := x.String(), x.Chunks()
	part, _ := x.Read(1, len(mixed)+1)
	d := drawn(11)
	for range 100 {
		d.edit(t, x, m, 6)
	}
	if all != mixed+mixed || part != all[1:len(mixed)+1] || strings.Join(slices.Collect(chunks), "") != all {
		t.Errorf("%q, %q", all, part)
	}
	was, got := x.String(), ""
	for chunk := range x.Chunks() {
		got += chunk
		d.edit(t, x, m, 6)
	}
	if got != was {
		t.Errorf("chunks under edits: %q, not %q", got, was)
	}
	checkSame(t, x, m)
}

// The chapter's examples.
func TestExamples(t *testing.T) {
	x := made(t, "ab")
	if e := x.Insert(1, "x"); e != api.OK || x.String() != "axb" {
		t.Errorf("Insert: %d, %q", e, x.String())
	}
	if e := x.Delete(0, 2); e != api.OK || x.String() != "b" {
		t.Errorf("Delete: %d, %q", e, x.String())
	}
}

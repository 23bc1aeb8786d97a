package pieces_test

import (
	"math/bits"
	"math/rand/v2"
	"strings"
	"testing"
	"unicode/utf8"

	"reglet/api"
	"reglet/pieces"
)

// plain is what a text must be: a string that is edited the same way, by the chapter's sentences.
type plain struct {
	text  string
	edits int // Inserts and Deletes that were not refused
}

func (m *plain) check(at int) api.Errno {
	if at < 0 || at > len(m.text) {
		return api.ErrOffset
	}
	if at < len(m.text) && !utf8.RuneStart(m.text[at]) {
		return api.ErrInside
	}
	return api.OK
}

func (m *plain) insert(at int, s string) api.Errno {
	if e := m.check(at); e != api.OK {
		return e
	}
	if !utf8.ValidString(s) {
		return api.ErrUTF8
	}
	if len(m.text)+len(s) > api.MaxText {
		return api.ErrSize
	}
	m.text = m.text[:at] + s + m.text[at:]
	m.edits++
	return api.OK
}

func (m *plain) part(from, to int) api.Errno {
	if from < 0 || to > len(m.text) || from > to {
		return api.ErrOffset
	}
	if e := m.check(from); e != api.OK {
		return e
	}
	return m.check(to)
}

func (m *plain) delete(from, to int) api.Errno {
	if e := m.part(from, to); e != api.OK {
		return e
	}
	m.text = m.text[:from] + m.text[to:]
	m.edits++
	return api.OK
}

func (m *plain) read(from, to int) (string, api.Errno) {
	if e := m.part(from, to); e != api.OK {
		return "", e
	}
	return m.text[from:to], api.OK
}

func (m *plain) before(at int) (int, api.Errno) {
	if at < 0 || at > len(m.text) {
		return 0, api.ErrOffset
	}
	return strings.Count(m.text[:at], "\n"), api.OK
}

func (m *plain) newline(n int) (int, bool) {
	for at, c := range []byte(m.text) {
		if c != '\n' {
			continue
		}
		if n == 0 {
			return at, true
		}
		n--
	}
	return 0, false
}

// made: the text, or the test ends.
func made(t *testing.T, s string) *pieces.Text {
	t.Helper()
	x, e := pieces.New(s)
	if e != api.OK || x == nil {
		t.Fatalf("New of %d bytes: %v, %d", len(s), x, e)
	}
	return x
}

// checkSame: what the text tells of itself as a whole.
func checkSame(t *testing.T, x *pieces.Text, m *plain) {
	t.Helper()
	if s := x.String(); s != m.text {
		t.Fatalf("String: %q, not %q", s, m.text)
	}
	if n := x.Len(); n != len(m.text) {
		t.Fatalf("Len: %d, not %d", n, len(m.text))
	}
	if n, want := x.Lines(), strings.Count(m.text, "\n"); n != want {
		t.Fatalf("Lines: %d, not %d", n, want)
	}
	checkPieces(t, x, m)
}

// checkPieces: P3.4.
func checkPieces(t *testing.T, x *pieces.Text, m *plain) {
	t.Helper()
	var join strings.Builder
	count := 0
	for chunk := range x.Chunks() {
		if chunk == "" {
			t.Fatalf("an empty chunk, of %q", m.text)
		}
		join.WriteString(chunk)
		count++
	}
	if join.String() != m.text {
		t.Fatalf("Chunks: %q, not %q", join.String(), m.text)
	}
	n, depth := x.Pieces(), x.Depth()
	if n != count {
		t.Fatalf("Pieces: %d, but %d chunks", n, count)
	}
	if n > 1+2*m.edits {
		t.Fatalf("%d Pieces after %d edits", n, m.edits)
	}
	if (n == 0) != (m.text == "") || (depth == 0) != (m.text == "") {
		t.Fatalf("%d Pieces, Depth %d of %q", n, depth, m.text)
	}
	if depth < 0 || depth > 2*bits.Len(uint(n)) {
		t.Fatalf("Depth %d of %d Pieces", depth, n)
	}
}

// checkPlaces: what it tells of every place, and of those beside it.
func checkPlaces(t *testing.T, x *pieces.Text, m *plain) {
	t.Helper()
	for _, at := range places(m.text) {
		checkPlace(t, x, m, at)
	}
	for n := range len(m.text) + 2 {
		checkNewline(t, x, m, n)
	}
	for _, n := range []int{-1, -2, -1 << 63, 1<<63 - 1} {
		checkNewline(t, x, m, n)
	}
}

func checkPlace(t *testing.T, x *pieces.Text, m *plain, at int) {
	t.Helper()
	c, ok := x.ByteAt(at)
	if there := at >= 0 && at < len(m.text); ok != there || there && c != m.text[at] || !there && c != 0 {
		t.Fatalf("ByteAt(%d) of %q: %d, %v", at, m.text, c, ok)
	}
	if e, want := x.Check(at), m.check(at); e != want {
		t.Fatalf("Check(%d) of %q: %d, not %d", at, m.text, e, want)
	}
	n, e := x.Before(at)
	if want, e2 := m.before(at); n != want || e != e2 {
		t.Fatalf("Before(%d) of %q: %d, %d, not %d, %d", at, m.text, n, e, want, e2)
	}
}

func checkNewline(t *testing.T, x *pieces.Text, m *plain, n int) {
	t.Helper()
	at, ok := x.Newline(n)
	if want, there := m.newline(n); at != want || ok != there {
		t.Fatalf("Newline(%d) of %q: %d, %v, not %d, %v", n, m.text, at, ok, want, there)
	}
}

// places: all of a text, and wrong ones.
func places(s string) []int {
	list := []int{-1 << 63, -1<<63 + 1, -1 << 16, -2, -1}
	for at := range len(s) + 3 {
		list = append(list, at)
	}
	return append(list, len(s)+1<<16, 1<<31, 1<<63-2, 1<<63-1)
}

// checkParts: what is read, and from where to where nothing may be.
func checkParts(t *testing.T, x *pieces.Text, m *plain) {
	t.Helper()
	list := places(m.text)
	for _, from := range list {
		for _, to := range list {
			checkRead(t, x, m, from, to)
		}
	}
}

func checkRead(t *testing.T, x *pieces.Text, m *plain, from, to int) {
	t.Helper()
	s, e := x.Read(from, to)
	if want, e2 := m.read(from, to); s != want || e != e2 {
		t.Fatalf("Read(%d, %d) of %q: %q, %d, not %q, %d", from, to, m.text, s, e, want, e2)
	}
}

// draws gives out what edits are made of; the same in every run.
type draws struct{ *rand.Rand }

func drawn(seed uint64) draws { return draws{rand.New(rand.NewPCG(seed, 3))} }

// place: mostly one of the text, now and then beside it.
func (d draws) place(m *plain) int {
	if d.IntN(16) == 0 {
		return d.IntN(len(m.text)+9) - 4
	}
	return d.IntN(len(m.text) + 1)
}

// text: runes of one to four bytes with line ends among them; now and then none, or wrong bytes.
func (d draws) text(most int) string {
	parts := []string{"a", "b", " ", "\n", "\n", "\u00e9", "\u20ac", "\u2028", "\U0001f600", "word", "a\nb"}
	var b strings.Builder
	for range d.IntN(most + 1) {
		b.WriteString(parts[d.IntN(len(parts))])
	}
	if d.IntN(24) == 0 {
		b.WriteString("\xe2\x82")
	}
	return b.String()
}

// edit: the same to a text and to its model.
func (d draws) edit(t *testing.T, x *pieces.Text, m *plain, most int) {
	t.Helper()
	was := m.text
	if d.IntN(2) == 0 {
		at, s := d.place(m), d.text(most)
		if e, want := x.Insert(at, s), m.insert(at, s); e != want {
			t.Fatalf("Insert(%d, %q) into %q: %d, not %d", at, s, was, e, want)
		}
		return
	}
	from := d.place(m)
	to := from + d.IntN(2*most+1)
	switch d.IntN(32) {
	case 0:
		to = from - 1 - d.IntN(4)
	case 1:
		to = min(d.place(m), from+300)
	}
	if e, want := x.Delete(from, to), m.delete(from, to); e != want {
		t.Fatalf("Delete(%d, %d) from %q: %d, not %d", from, to, was, e, want)
	}
}

package paras

import (
	"strings"
	"testing"

	"reglet/api"
)

// The chapter's examples.
func TestExamples(t *testing.T) {
	sizes, open := Split("ab\ncd")
	if len(sizes) != 2 || sizes[0] != 3 || sizes[1] != 2 || !open {
		t.Errorf("Split: %v, %v", sizes, open)
	}
	x := New("ab\ncd")
	if i, err := x.Insert(1, "x\n"); i != (api.Interval{First: 0, Old: 1, New: 2}) || err != api.OK {
		t.Errorf("Insert: %v, %d", i, err)
	}
	agree(t, x, "ax\nb\ncd")
	x = New("ab\ncd")
	if i, err := x.Delete(2, 3); i != (api.Interval{First: 0, Old: 2, New: 1}) || err != api.OK {
		t.Errorf("Delete: %v, %d", i, err)
	}
	agree(t, x, "abcd")
}

// P6.2, P6.5 and P6.6.
func TestInsert(t *testing.T) {
	tests := []struct {
		text string
		at   int
		s    string
		want api.Interval
		err  api.Errno
	}{
		// Below 0 and above Size, also with nothing.
		{"ab\ncd", -1, "x", api.Interval{}, api.ErrOffset},
		{"ab\ncd", minInt, "x", api.Interval{}, api.ErrOffset},
		{"ab\ncd", 6, "x", api.Interval{}, api.ErrOffset},
		{"ab\ncd", maxInt, "x", api.Interval{}, api.ErrOffset},
		{"ab\ncd", -1, "", api.Interval{}, api.ErrOffset},
		{"ab\ncd", 6, "", api.Interval{}, api.ErrOffset},
		{"", 1, "x", api.Interval{}, api.ErrOffset},
		{"", -1, "", api.Interval{}, api.ErrOffset},
		// Of nothing.
		{"ab\ncd", 0, "", api.Interval{}, api.OK},
		{"ab\ncd", 3, "", api.Interval{}, api.OK},
		{"ab\ncd", 5, "", api.Interval{}, api.OK},
		{"", 0, "", api.Interval{}, api.OK},
		// At 0.
		{"ab\ncd", 0, "x", api.Interval{First: 0, Old: 1, New: 1}, api.OK},
		{"ab\ncd", 0, "x\n", api.Interval{First: 0, Old: 1, New: 2}, api.OK},
		{"ab\ncd", 0, "\n\n", api.Interval{First: 0, Old: 1, New: 3}, api.OK},
		{"ab\ncd", 0, "\nx", api.Interval{First: 0, Old: 1, New: 2}, api.OK},
		{"", 0, "x", api.Interval{First: 0, Old: 0, New: 1}, api.OK},
		{"", 0, "\n", api.Interval{First: 0, Old: 0, New: 1}, api.OK},
		{"", 0, "x\ny\nz", api.Interval{First: 0, Old: 0, New: 3}, api.OK},
		{"", 0, "x\ny\n", api.Interval{First: 0, Old: 0, New: 2}, api.OK},
		// Between two paragraphs: it touches the one behind.
		{"ab\ncd\nef\n", 3, "x", api.Interval{First: 1, Old: 1, New: 1}, api.OK},
		{"ab\ncd\nef\n", 3, "x\n", api.Interval{First: 1, Old: 1, New: 2}, api.OK},
		{"ab\ncd\nef\n", 6, "\nx", api.Interval{First: 2, Old: 1, New: 2}, api.OK},
		{"ab\ncd\nef\n", 6, "\n", api.Interval{First: 2, Old: 1, New: 2}, api.OK},
		// Within one, also ahead of its line end.
		{"ab\ncd\nef", 4, "x", api.Interval{First: 1, Old: 1, New: 1}, api.OK},
		{"ab\ncd\nef", 4, "x\ny", api.Interval{First: 1, Old: 1, New: 2}, api.OK},
		{"ab\ncd\nef", 4, "x\ny\n", api.Interval{First: 1, Old: 1, New: 3}, api.OK},
		{"ab\ncd\nef", 4, "\n", api.Interval{First: 1, Old: 1, New: 2}, api.OK},
		{"ab\ncd\nef", 4, "\n\n\n", api.Interval{First: 1, Old: 1, New: 4}, api.OK},
		{"ab\ncd\nef", 5, "\n", api.Interval{First: 1, Old: 1, New: 2}, api.OK},
		{"ab\ncd\nef", 5, "x", api.Interval{First: 1, Old: 1, New: 1}, api.OK},
		{"ab\n\nef", 3, "x", api.Interval{First: 1, Old: 1, New: 1}, api.OK},
		{"ab\n\nef", 3, "\n", api.Interval{First: 1, Old: 1, New: 2}, api.OK},
		{"ab\ncd\nef", 7, "x", api.Interval{First: 2, Old: 1, New: 1}, api.OK},
		{"ab\ncd\nef", 7, "x\n", api.Interval{First: 2, Old: 1, New: 2}, api.OK},
		// At Size of an open text.
		{"ab\ncd", 5, "x", api.Interval{First: 1, Old: 1, New: 1}, api.OK},
		{"ab\ncd", 5, "\n", api.Interval{First: 1, Old: 1, New: 1}, api.OK},
		{"ab\ncd", 5, "x\n", api.Interval{First: 1, Old: 1, New: 1}, api.OK},
		{"ab\ncd", 5, "\nx", api.Interval{First: 1, Old: 1, New: 2}, api.OK},
		{"ab\ncd", 5, "\n\n", api.Interval{First: 1, Old: 1, New: 2}, api.OK},
		// At Size of one that isn't.
		{"ab\ncd\n", 6, "x", api.Interval{First: 2, Old: 0, New: 1}, api.OK},
		{"ab\ncd\n", 6, "\n", api.Interval{First: 2, Old: 0, New: 1}, api.OK},
		{"ab\ncd\n", 6, "x\n", api.Interval{First: 2, Old: 0, New: 1}, api.OK},
		{"ab\ncd\n", 6, "\nx", api.Interval{First: 2, Old: 0, New: 2}, api.OK},
		{"ab\ncd\n", 6, "\n\n\n", api.Interval{First: 2, Old: 0, New: 3}, api.OK},
		// Bytes that are no text.
		{"a\xff\nb", 1, "\x80\n\xc3", api.Interval{First: 0, Old: 1, New: 2}, api.OK},
	}
	for _, test := range tests {
		x := New(test.text)
		if got, err := x.Insert(test.at, test.s); got != test.want || err != test.err {
			t.Errorf("Insert(%d, %q) in %q: %v, %d, want %v, %d", test.at, test.s, test.text, got, err, test.want, test.err)
		}
		left := test.text
		if test.err == api.OK {
			left = test.text[:test.at] + test.s + test.text[test.at:]
		}
		agree(t, x, left)
		if !untouched(test.text, left, test.want) {
			t.Errorf("Insert(%d, %q) in %q: %v leaves others changed", test.at, test.s, test.text, test.want)
		}
	}
}

// P6.2: up to exactly MaxText bytes and one more, and the order of the errors.
func TestInsertUpToMost(t *testing.T) {
	text := "ab\ncd"
	rest := strings.Repeat("x", api.MaxText-len(text)-1) + "\n"
	for at := range len(text) + 1 {
		x := New(text)
		if i, err := x.Insert(at, rest+"y"); i != (api.Interval{}) || err != api.ErrSize {
			t.Errorf("Insert of one byte too many at %d: %v, %d", at, i, err)
		}
		agree(t, x, text)
		left, want, _ := insert(text, at, rest)
		if i, err := x.Insert(at, rest); i != want || err != api.OK {
			t.Errorf("Insert up to MaxText at %d: %v, %d, want %v", at, i, err, want)
		}
		if x.Size() != api.MaxText || x.Count() != len(split(left)) || x.Open() != isOpen(left) {
			t.Errorf("Size %d, Count %d, Open %v", x.Size(), x.Count(), x.Open())
		}
		if i, err := x.Insert(at, "y"); i != (api.Interval{}) || err != api.ErrSize {
			t.Errorf("Insert into a full text at %d: %v, %d", at, i, err)
		}
		if i, err := x.Insert(at, ""); i != (api.Interval{}) || err != api.OK {
			t.Errorf("Insert of nothing into a full text at %d: %v, %d", at, i, err)
		}
	}
	x := New(text)
	for _, at := range []int{-1, len(text) + 1, minInt, maxInt} {
		if i, err := x.Insert(at, rest+"y"); i != (api.Interval{}) || err != api.ErrOffset {
			t.Errorf("Insert of too much at %d: %v, %d", at, i, err)
		}
	}
	agree(t, x, text)
}

// P6.2: MaxText bytes at once, in an empty text.
func TestInsertMostAtOnce(t *testing.T) {
	lines := strings.Repeat("\n", api.MaxText)
	x := New("")
	if i, err := x.Insert(0, lines+"\n"); i != (api.Interval{}) || err != api.ErrSize {
		t.Errorf("Insert of one line end too many: %v, %d", i, err)
	}
	agree(t, x, "")
	if i, err := x.Insert(0, lines); i != (api.Interval{New: api.MaxText}) || err != api.OK {
		t.Errorf("Insert of line ends: %v, %d", i, err)
	}
	if x.Count() != api.MaxText || x.Size() != api.MaxText || x.Open() {
		t.Errorf("Count %d, Size %d, Open %v", x.Count(), x.Size(), x.Open())
	}
}

// P6.3, P6.5 and P6.6.
func TestDelete(t *testing.T) {
	tests := []struct {
		text     string
		from, to int
		want     api.Interval
		err      api.Errno
	}{
		// Beyond either end, and from above to.
		{"ab\ncd", -1, 2, api.Interval{}, api.ErrOffset},
		{"ab\ncd", -1, -1, api.Interval{}, api.ErrOffset},
		{"ab\ncd", 0, 6, api.Interval{}, api.ErrOffset},
		{"ab\ncd", 6, 6, api.Interval{}, api.ErrOffset},
		{"ab\ncd", 3, 2, api.Interval{}, api.ErrOffset},
		{"ab\ncd", minInt, maxInt, api.Interval{}, api.ErrOffset},
		{"ab\ncd", maxInt, minInt, api.Interval{}, api.ErrOffset},
		{"ab\ncd", 0, minInt, api.Interval{}, api.ErrOffset},
		{"ab\ncd", maxInt, 5, api.Interval{}, api.ErrOffset},
		{"", 0, 1, api.Interval{}, api.ErrOffset},
		{"", -1, 0, api.Interval{}, api.ErrOffset},
		// Nothing.
		{"ab\ncd", 0, 0, api.Interval{}, api.OK},
		{"ab\ncd", 3, 3, api.Interval{}, api.OK},
		{"ab\ncd", 5, 5, api.Interval{}, api.OK},
		{"", 0, 0, api.Interval{}, api.OK},
		// All.
		{"ab\ncd", 0, 5, api.Interval{First: 0, Old: 2, New: 0}, api.OK},
		{"ab\ncd\n", 0, 6, api.Interval{First: 0, Old: 2, New: 0}, api.OK},
		{"a", 0, 1, api.Interval{First: 0, Old: 1, New: 0}, api.OK},
		{"\n\n", 0, 2, api.Interval{First: 0, Old: 2, New: 0}, api.OK},
		// Bytes of one paragraph, its line end not among them.
		{"ab\ncd\nef", 0, 1, api.Interval{First: 0, Old: 1, New: 1}, api.OK},
		{"ab\ncd\nef", 0, 2, api.Interval{First: 0, Old: 1, New: 1}, api.OK},
		{"ab\ncd\nef", 3, 5, api.Interval{First: 1, Old: 1, New: 1}, api.OK},
		{"ab\ncd\nef", 4, 5, api.Interval{First: 1, Old: 1, New: 1}, api.OK},
		{"ab\ncd\nef", 6, 7, api.Interval{First: 2, Old: 1, New: 1}, api.OK},
		{"ab\ncd\nef", 7, 8, api.Interval{First: 2, Old: 1, New: 1}, api.OK},
		{"ab\ncd\nef", 6, 8, api.Interval{First: 2, Old: 1, New: 0}, api.OK},
		// A line end alone: with bytes ahead of it and one behind, without either.
		{"ab\ncd\nef", 2, 3, api.Interval{First: 0, Old: 2, New: 1}, api.OK},
		{"ab\ncd\nef", 5, 6, api.Interval{First: 1, Old: 2, New: 1}, api.OK},
		{"ab\ncd\n", 5, 6, api.Interval{First: 1, Old: 1, New: 1}, api.OK},
		{"ab\n\nef", 3, 4, api.Interval{First: 1, Old: 1, New: 0}, api.OK},
		{"ab\n\nef", 2, 3, api.Interval{First: 0, Old: 2, New: 1}, api.OK},
		{"\n\n\n", 1, 2, api.Interval{First: 1, Old: 1, New: 0}, api.OK},
		{"\nab", 0, 1, api.Interval{First: 0, Old: 1, New: 0}, api.OK},
		{"ab\n\n", 3, 4, api.Interval{First: 1, Old: 1, New: 0}, api.OK},
		// Whole paragraphs.
		{"ab\ncd\nef", 0, 3, api.Interval{First: 0, Old: 1, New: 0}, api.OK},
		{"ab\ncd\nef", 3, 6, api.Interval{First: 1, Old: 1, New: 0}, api.OK},
		{"ab\ncd\nef", 0, 6, api.Interval{First: 0, Old: 2, New: 0}, api.OK},
		{"ab\ncd\nef", 3, 8, api.Interval{First: 1, Old: 2, New: 0}, api.OK},
		{"ab\ncd\nef\n", 6, 9, api.Interval{First: 2, Old: 1, New: 0}, api.OK},
		// A paragraph's first bytes together with the line end ahead of it.
		{"ab\ncd\nef", 2, 4, api.Interval{First: 0, Old: 2, New: 1}, api.OK},
		{"ab\ncd\nef", 5, 7, api.Interval{First: 1, Old: 2, New: 1}, api.OK},
		{"ab\n\ncd\nef", 3, 5, api.Interval{First: 1, Old: 2, New: 1}, api.OK},
		// The last one's line end lost, bytes kept ahead of from, one behind.
		{"ab\ncd\nef\ngh", 1, 6, api.Interval{First: 0, Old: 3, New: 1}, api.OK},
		{"ab\ncd\nef\ngh", 4, 6, api.Interval{First: 1, Old: 2, New: 1}, api.OK},
		{"ab\ncd\nef\n", 4, 6, api.Interval{First: 1, Old: 2, New: 1}, api.OK},
		{"ab\ncd\n\n\n", 5, 6, api.Interval{First: 1, Old: 2, New: 1}, api.OK},
		// The same, but none behind.
		{"ab\ncd\nef\n", 4, 9, api.Interval{First: 1, Old: 2, New: 1}, api.OK},
		{"ab\ncd\nef\n", 7, 9, api.Interval{First: 2, Old: 1, New: 1}, api.OK},
		{"ab\ncd\nef", 4, 8, api.Interval{First: 1, Old: 2, New: 1}, api.OK},
		// The same, but no bytes kept ahead of from.
		{"ab\ncd\nef\ngh", 3, 9, api.Interval{First: 1, Old: 2, New: 0}, api.OK},
		{"ab\ncd\nef\ngh", 0, 3, api.Interval{First: 0, Old: 1, New: 0}, api.OK},
		// The last one's line end not lost.
		{"ab\ncd\nef\ngh", 1, 5, api.Interval{First: 0, Old: 2, New: 1}, api.OK},
		{"ab\ncd\nef\ngh", 0, 5, api.Interval{First: 0, Old: 2, New: 1}, api.OK},
		{"ab\ncd\nef\ngh", 0, 4, api.Interval{First: 0, Old: 2, New: 1}, api.OK},
		{"ab\ncd\nef\ngh", 3, 8, api.Interval{First: 1, Old: 2, New: 1}, api.OK},
	}
	for _, test := range tests {
		x := New(test.text)
		if got, err := x.Delete(test.from, test.to); got != test.want || err != test.err {
			t.Errorf("Delete(%d, %d) of %q: %v, %d, want %v, %d", test.from, test.to, test.text, got, err, test.want, test.err)
		}
		left := test.text
		if test.err == api.OK {
			left = test.text[:test.from] + test.text[test.to:]
		}
		agree(t, x, left)
		if !untouched(test.text, left, test.want) {
			t.Errorf("Delete(%d, %d) of %q: %v leaves others changed", test.from, test.to, test.text, test.want)
		}
	}
}

package paras

import (
	"slices"
	"strings"
	"testing"

	"reglet/api"
)

// texts of all kinds: of several paragraphs, open and not, empty, line ends alone, no text.
var texts = []struct {
	s     string
	sizes []int
	open  bool
}{
	{"", nil, false},
	{"a", []int{1}, true},
	{"\n", []int{1}, false},
	{"\n\n\n", []int{1, 1, 1}, false},
	{"ab\n", []int{3}, false},
	{"ab\ncd", []int{3, 2}, true},
	{"ab\ncd\n", []int{3, 3}, false},
	{"\nab", []int{1, 2}, true},
	{"ab\n\ncd", []int{3, 1, 2}, true},
	{"ab\n\n", []int{3, 1}, false},
	{"one\ntwo three\n\nfour", []int{4, 10, 1, 4}, true},
	{"caf\u00e9\nna\u00efve\n", []int{6, 7}, false},
	{"\xff\x80\n\xc3", []int{3, 1}, true},
	{"\xe2\n\x82\n\xac", []int{2, 2, 1}, true},
	{"a\rb\r\nc\vd\x00", []int{5, 4}, true},
	{"a\u0085b\u2028c\u2029d", []int{12}, true},
	{"\xc0\x8a\x8a", []int{3}, true},
}

// P6.1.
func TestSplit(t *testing.T) {
	for _, test := range texts {
		if sizes, open := Split(test.s); !slices.Equal(sizes, test.sizes) || open != test.open {
			t.Errorf("Split(%q): %v, %v, want %v, %v", test.s, sizes, open, test.sizes, test.open)
		}
	}
}

// P6.1.
func TestNew(t *testing.T) {
	for _, test := range texts {
		x := New(test.s)
		agree(t, x, test.s)
		if x.Count() != len(test.sizes) || x.Size() != len(test.s) || x.Open() != test.open {
			t.Errorf("New(%q): Count %d, Size %d, Open %v", test.s, x.Count(), x.Size(), x.Open())
		}
	}
}

// P6.1: New has no error, so that it takes a text that is longer than an edit may leave.
func TestNewOfMore(t *testing.T) {
	many := strings.Repeat("abc\n", 20000) + "d"
	x := New(many)
	if x.Count() != 20001 || x.Size() != 80001 || !x.Open() {
		t.Errorf("New: Count %d, Size %d, Open %v", x.Count(), x.Size(), x.Open())
	}
	if p, ok := x.Find(80000); p != 20000 || !ok {
		t.Errorf("Find of the last byte: %d, %v", p, ok)
	}
	if i, err := x.Insert(0, "x"); i != (api.Interval{}) || err != api.ErrSize {
		t.Errorf("Insert: %v, %d", i, err)
	}
	if i, err := x.Insert(0, ""); i != (api.Interval{}) || err != api.OK {
		t.Errorf("Insert of nothing: %v, %d", i, err)
	}
	if i, err := x.Delete(4, 79999); i != (api.Interval{First: 1, Old: 19999, New: 1}) || err != api.OK {
		t.Errorf("Delete: %v, %d", i, err)
	}
	agree(t, x, "abc\n\nd")
}

// P6.1.
func TestSpan(t *testing.T) {
	tests := []struct {
		s          string
		p          int
		begin, end int
		ok         bool
	}{
		{"ab\ncd\n\nef", 0, 0, 3, true},
		{"ab\ncd\n\nef", 1, 3, 6, true},
		{"ab\ncd\n\nef", 2, 6, 7, true},
		{"ab\ncd\n\nef", 3, 7, 9, true},
		{"ab\ncd\n\nef", 4, 0, 0, false},
		{"ab\ncd\n\nef", 5, 0, 0, false},
		{"ab\ncd\n\nef", -1, 0, 0, false},
		{"ab\ncd\n\nef", minInt, 0, 0, false},
		{"ab\ncd\n\nef", maxInt, 0, 0, false},
		{"ab\n", 0, 0, 3, true},
		{"ab\n", 1, 0, 0, false},
		{"", 0, 0, 0, false},
		{"", -1, 0, 0, false},
	}
	for _, test := range tests {
		begin, end, ok := New(test.s).Span(test.p)
		if begin != test.begin || end != test.end || ok != test.ok {
			t.Errorf("Span(%d) of %q: %d, %d, %v", test.p, test.s, begin, end, ok)
		}
	}
}

// P6.1.
func TestFind(t *testing.T) {
	tests := []struct {
		s  string
		at int
		p  int
		ok bool
	}{
		{"ab\ncd\n\nef", -1, 0, false},
		{"ab\ncd\n\nef", minInt, 0, false},
		{"ab\ncd\n\nef", 0, 0, true},
		{"ab\ncd\n\nef", 1, 0, true},
		{"ab\ncd\n\nef", 2, 0, true},
		{"ab\ncd\n\nef", 3, 1, true},
		{"ab\ncd\n\nef", 5, 1, true},
		{"ab\ncd\n\nef", 6, 2, true},
		{"ab\ncd\n\nef", 7, 3, true},
		{"ab\ncd\n\nef", 8, 3, true},
		{"ab\ncd\n\nef", 9, 0, false},
		{"ab\ncd\n\nef", maxInt, 0, false},
		{"ab\n", 2, 0, true},
		{"ab\n", 3, 0, false},
		{"", 0, 0, false},
		{"", -1, 0, false},
	}
	for _, test := range tests {
		if p, ok := New(test.s).Find(test.at); p != test.p || ok != test.ok {
			t.Errorf("Find(%d) of %q: %d, %v, want %d, %v", test.at, test.s, p, ok, test.p, test.ok)
		}
	}
}

// P6.1.
func TestSpans(t *testing.T) {
	x := New("ab\ncd\n\nef")
	all := []span{{0, 3}, {3, 6}, {6, 7}, {7, 9}}
	spans := x.Spans()
	for stop := range len(all) + 1 {
		var got []span
		for begin, end := range spans {
			if len(got) == stop {
				break
			}
			got = append(got, span{begin, end})
		}
		if !slices.Equal(got, all[:stop]) {
			t.Errorf("Spans, stopped behind %d: %v", stop, got)
		}
	}
	for begin, end := range New("").Spans() {
		t.Errorf("Spans of an empty text: %d, %d", begin, end)
	}
}

// P6.1: told to stop, it gives out no more, whatever stands behind.
func TestSpansStops(t *testing.T) {
	x := New("ab\ncd\n\nef")
	for stop := 1; stop <= 4; stop++ {
		calls := 0
		x.Spans()(func(int, int) bool {
			calls++
			return calls < stop
		})
		if calls != stop {
			t.Errorf("Spans, told to stop at paragraph %d: %d given out", stop, calls)
		}
	}
}

// What Spans answered tells the index as it stood, also if it is edited meanwhile.
func TestSpansWhileEdited(t *testing.T) {
	x := New("ab\ncd\n\nef")
	before := told(x)
	spans := x.Spans()
	for range 2 {
		var got []span
		for begin, end := range spans {
			got = append(got, span{begin, end})
			x.Insert(1, "x\ny")
			x.Insert(x.Size(), "\n")
			x.Delete(2, 4)
		}
		if !slices.Equal(got, before) {
			t.Errorf("Spans of an edited index: %v, want %v", got, before)
		}
	}
}

// P6.4.
func TestOver(t *testing.T) {
	text := "ab\ncd\n\nef"
	tests := []struct {
		from, to int
		want     api.Interval
		err      api.Errno
	}{
		{0, 0, api.Interval{}, api.OK},
		{3, 3, api.Interval{}, api.OK},
		{9, 9, api.Interval{}, api.OK},
		{0, 1, api.Interval{First: 0, Old: 1, New: 1}, api.OK},
		{0, 3, api.Interval{First: 0, Old: 1, New: 1}, api.OK},
		{2, 3, api.Interval{First: 0, Old: 1, New: 1}, api.OK},
		{2, 4, api.Interval{First: 0, Old: 2, New: 2}, api.OK},
		{3, 6, api.Interval{First: 1, Old: 1, New: 1}, api.OK},
		{4, 5, api.Interval{First: 1, Old: 1, New: 1}, api.OK},
		{5, 7, api.Interval{First: 1, Old: 2, New: 2}, api.OK},
		{6, 7, api.Interval{First: 2, Old: 1, New: 1}, api.OK},
		{4, 8, api.Interval{First: 1, Old: 3, New: 3}, api.OK},
		{8, 9, api.Interval{First: 3, Old: 1, New: 1}, api.OK},
		{0, 9, api.Interval{First: 0, Old: 4, New: 4}, api.OK},
		{-1, 2, api.Interval{}, api.ErrOffset},
		{-1, -1, api.Interval{}, api.ErrOffset},
		{0, 10, api.Interval{}, api.ErrOffset},
		{10, 10, api.Interval{}, api.ErrOffset},
		{3, 2, api.Interval{}, api.ErrOffset},
		{minInt, maxInt, api.Interval{}, api.ErrOffset},
		{maxInt, minInt, api.Interval{}, api.ErrOffset},
		{0, minInt, api.Interval{}, api.ErrOffset},
		{maxInt, 9, api.Interval{}, api.ErrOffset},
	}
	x := New(text)
	for _, test := range tests {
		if got, err := x.Over(test.from, test.to); got != test.want || err != test.err {
			t.Errorf("Over(%d, %d): %v, %d, want %v, %d", test.from, test.to, got, err, test.want, test.err)
		}
	}
	agree(t, x, text)
	if got, err := New("").Over(0, 0); got != (api.Interval{}) || err != api.OK {
		t.Errorf("Over of an empty text: %v, %d", got, err)
	}
}

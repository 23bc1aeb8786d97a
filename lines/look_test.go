package lines_test

import (
	"math/rand/v2"
	"slices"
	"strings"
	"testing"

	"reglet/api"
	"reglet/lines"
)

// P10.3: Text of none, of one and of several lines, of empty ones, and of bytes that are no runes.
func TestText(t *testing.T) {
	for _, c := range []struct {
		list []string
		want string
	}{
		{nil, ""}, {[]string{""}, ""}, {[]string{"ab"}, "ab"}, {[]string{"ab ", "cd\n"}, "ab cd\n"},
		{[]string{"", "a", "", "\u00ad", ""}, "a\u00ad"}, {[]string{"b", "a", "c", "a"}, "baca"}, {[]string{"\xe2", "\x82\xac", "\xff"}, "\u20ac\xff"},
	} {
		var list []api.Line
		for _, s := range c.list {
			// A hyphen at a line's end is none of its bytes, and other fields don't count.
			list = append(list, api.Line{Text: s, Hyphen: true, Runs: cut(99, 1), Begin: true})
		}
		if got := lines.Text(list); got != c.want {
			t.Errorf("Text(%q) = %q", c.list, got)
		}
	}
}

// P10.3: Shown of each kind of rune, at the beginning, within and at the end, with Hyphen and without.
func TestShown(t *testing.T) {
	for _, c := range []struct{ text, want string }{
		{"", ""}, {"a", "a"}, {"ab\u00e9\u20ac\U0001f600", "ab\u00e9\u20ac\U0001f600"}, {"\ufffd", "\ufffd"}, {"\x00\r\v", "\x00\r\v"},
		// Not shown, wherever they stand.
		{"\u00ad", ""}, {"\u200b", ""}, {"\u2060", ""}, {"\ufeff", ""}, {"\u2028", ""}, {"\n", ""},
		{"\u00ada\u00adb\u00ad", "ab"}, {"\u200ba\u200bb\u200b", "ab"}, {"\u2060a\u2060b\u2060", "ab"}, {"\ufeffa\ufeffb\ufeff", "ab"}, {"\u2028a\u2028b\u2028", "ab"}, {"\na\nb\n", "ab"},
		{"\u00ad\u200b\u2060\ufeff\u2028\n", ""},
		// Shown: hyphens, and spaces that aren't broken at, at the end too.
		{"a-", "a-"}, {"-\u2010", "-\u2010"}, {"a\u00a0", "a\u00a0"}, {"a\u202f", "a\u202f"}, {"\u00a0 \u202f", "\u00a0 \u202f"}, {"\u2009a\u3000", "\u2009a\u3000"},
		// Spaces: at the end they aren't shown, elsewhere they are.
		{" ", ""}, {"\t", ""}, {" \t ", ""}, {"a ", "a"}, {"a\t", "a"}, {"a \t  ", "a"}, {" a", " a"}, {"\t\ta b", "\t\ta b"}, {"a  b\tc ", "a  b\tc"}, {" a \t", " a"},
		{"a \u00a0 ", "a \u00a0"}, {"a - ", "a -"},
		// What isn't shown goes first: spaces ahead of it are at the end then.
		{"a \n", "a"}, {"a \u2028", "a"}, {"a \u00ad", "a"}, {"a \u200b \u2060\t\ufeff\n", "a"}, {" \u00ad \n", ""}, {"a \u00ad b", "a  b"}, {" \u00ada", " a"}, {"a \u00ad\u00a0\n", "a \u00a0"},
	} {
		if got := lines.Shown(api.Line{Text: c.text, Num: 3, Runs: cut(1, 1), End: true}); got != c.want {
			t.Errorf("Shown(%q) = %q, not %q", c.text, got, c.want)
		}
		if got := lines.Shown(api.Line{Text: c.text, Hyphen: true}); got != c.want+"-" {
			t.Errorf("Shown(%q) with Hyphen = %q, not %q", c.text, got, c.want+"-")
		}
	}
}

// P10.3: Shown of every rune of two bytes or fewer, and of some beyond, between letters: just those named are left out.
func TestShownRunes(t *testing.T) {
	from := rand.New(rand.NewPCG(10, 3))
	for n := range 30000 {
		r := rune(n)
		if n >= 0x3000 {
			r = rune(from.IntN(0x110000))
		}
		if r >= 0xD800 && r <= 0xDFFF {
			continue
		}
		want := "a" + string(r) + "b"
		switch r {
		case 0xAD, 0x200B, 0x2060, 0xFEFF, 0x2028, 0xA:
			want = "ab"
		}
		if got := lines.Shown(api.Line{Text: "a" + string(r) + "b"}); got != want {
			t.Errorf("Shown with %x: %q", r, got)
		}
		if r == 0x20 || r == 0x9 {
			want = "a"
		} else {
			want = strings.TrimSuffix(want, "b")
		}
		if got := lines.Shown(api.Line{Text: "a" + string(r)}); got != want {
			t.Errorf("Shown with %x at the end: %q", r, got)
		}
	}
}

// P1: Shown of texts that aren't right ends.
func TestShownOfWrong(t *testing.T) {
	for _, text := range []string{"\xff", "a\xc3", "\x80 \x80", "\xe2\x82", "\xed\xa0\x80 ", "\xf4\x90\x80\x80\n", "\xc0\x8a"} {
		lines.Shown(api.Line{Text: text})
		lines.Shown(api.Line{Text: text, Hyphen: true})
	}
}

// full: a line with something in every field.
func full() api.Line {
	return api.Line{Text: "ab\u00ad", Runs: cut(1, 2, 3, 1), Num: -1, Den: 3, Height: 12, Hyphen: true, Y: 40, Begin: true}
}

// changes: each makes another line of full's, in one field.
func changes() map[string]func(l *api.Line) {
	return map[string]func(l *api.Line){
		"Text":       func(l *api.Line) { l.Text = "ac\u00ad" },
		"Text size":  func(l *api.Line) { l.Text = "ab" },
		"no Text":    func(l *api.Line) { l.Text = "" },
		"Run style":  func(l *api.Line) { l.Runs = cut(1, 2, 3, 0) },
		"Run length": func(l *api.Line) { l.Runs = cut(2, 2, 2, 1) },
		"fewer Runs": func(l *api.Line) { l.Runs = cut(1, 2) },
		"more Runs":  func(l *api.Line) { l.Runs = cut(1, 2, 3, 1, 1, 1) },
		"no Runs":    func(l *api.Line) { l.Runs = nil },
		"Num":        func(l *api.Line) { l.Num = 1 },
		"Den":        func(l *api.Line) { l.Den = 2 },
		"Height":     func(l *api.Line) { l.Height = 13 },
		"Hyphen":     func(l *api.Line) { l.Hyphen = false },
		"Y":          func(l *api.Line) { l.Y = 0 },
		"Begin":      func(l *api.Line) { l.Begin = false },
		"End":        func(l *api.Line) { l.End = true },
	}
}

// P10.3: Same where just one field differs, each in turn, from both sides.
func TestSame(t *testing.T) {
	for name, change := range changes() {
		other := full()
		change(&other)
		if lines.Same(full(), other) || lines.Same(other, full()) || lines.Same(api.Line{}, other) {
			t.Errorf("%s: %+v is the same as another", name, other)
		}
		again := full()
		change(&again)
		if !lines.Same(other, again) || !lines.Same(other, other) {
			t.Errorf("%s: %+v is not the same as itself", name, other)
		}
	}
	if !lines.Same(full(), full()) || !lines.Same(api.Line{}, api.Line{}) {
		t.Error("a line is not the same as itself")
	}
}

// P10.3: Same holds runs against each other as runs.Same does: by the bytes' styles, not by where they are cut.
func TestSameRuns(t *testing.T) {
	for _, c := range []struct {
		a, b []api.Run
		want bool
	}{
		{nil, cut(), true}, {nil, cut(0, 3), true}, {nil, cut(-1, 3), true}, {cut(2, 1), cut(1, 1, 1, 1), true}, {cut(2, 1), cut(1, 1, 0, 2, -5, 2, 1, 1), true},
		{cut(2, 1), cut(1, 1, 1, 2), false}, {cut(2, 1), cut(2, 1, 1, 1), false}, {cut(2, 1, 1, 2), cut(1, 2, 2, 1), false}, {nil, cut(1, 0), false},
	} {
		a, b := full(), full()
		a.Runs, b.Runs = c.a, c.b
		if lines.Same(a, b) != c.want || lines.Same(b, a) != c.want {
			t.Errorf("Same with the runs %v and %v is not %v", c.a, c.b, c.want)
		}
	}
}

// P10.3: a Copy is alike in every field, and what is done to its runs leaves the original, and the other way round.
func TestCopy(t *testing.T) {
	list := []api.Line{full(), {}, {Text: "a", Runs: cut(1, 0), End: true}, {Runs: cut(0, 1, -3, 2, 5, 5), Y: -1}}
	for _, change := range changes() {
		other := full()
		change(&other)
		list = append(list, other)
	}
	for _, l := range list {
		before := l
		before.Runs = slices.Clone(l.Runs)
		got := lines.Copy(l)
		if !alike(got, before) || !lines.Same(got, l) {
			t.Errorf("Copy(%+v) = %+v", l, got)
		}
		second := lines.Copy(l)
		spoil(got.Runs)
		if !alike(l, before) || !alike(second, before) {
			t.Errorf("a change of the copy's runs made %+v and %+v of %+v", l, second, before)
		}
		spoil(l.Runs)
		if !alike(second, before) {
			t.Errorf("a change of the original's runs made %+v of %+v", second, before)
		}
	}
}

// spoil changes runs with their spare room.
func spoil(list []api.Run) {
	list = list[:cap(list)]
	for k := range list {
		list[k] = api.Run{Len: 77, Style: 77}
	}
}

// P10.3: a Copy of a line whose runs have spare room leaves that.
func TestCopyLeavesRoom(t *testing.T) {
	room := cut(1, 2, 3, 1, 9, 9)
	l := full()
	l.Runs = room[:2]
	got := lines.Copy(l)
	_ = append(got.Runs, api.Run{Len: 5, Style: 5})
	spoil(got.Runs)
	if !slices.Equal(room, cut(1, 2, 3, 1, 9, 9)) {
		t.Errorf("the runs' room became %v", room)
	}
}

// P10.3: Slots of none, of one and of several lines, with keep and without.
func TestSlots(t *testing.T) {
	for _, keep := range []bool{false, true} {
		for _, c := range []struct {
			heights []int
			want    []api.Slot
		}{
			{nil, nil},
			{[]int{12}, []api.Slot{{Height: 12, Index: 0, Count: 1, Keep: keep}}},
			{[]int{12, 30}, []api.Slot{{Height: 12, Index: 0, Count: 2, Keep: keep}, {Height: 30, Index: 1, Count: 2, Keep: keep}}},
			{[]int{7, 0, 7, -1}, []api.Slot{{Height: 7, Index: 0, Count: 4, Keep: keep}, {Height: 0, Index: 1, Count: 4, Keep: keep}, {Height: 7, Index: 2, Count: 4, Keep: keep}, {Height: -1, Index: 3, Count: 4, Keep: keep}}},
		} {
			var list []api.Line
			for _, height := range c.heights {
				list = append(list, api.Line{Height: height, Y: 99, Begin: true, Text: "a"})
			}
			if got := lines.Slots(list, keep); !slices.Equal(got, c.want) {
				t.Errorf("Slots(%v, %v) = %v", c.heights, keep, got)
			}
		}
	}
}

// P10.3: Slots of a paragraph's lines.
func TestSlotsOfParagraph(t *testing.T) {
	const text = "aa bb cc\n"
	got, _ := given(t, made(t, styles()), text, cut(3, 0, 3, 1, 3, 2)).holds(t, narrow, tolerant(200))
	want := []api.Slot{{Height: 12, Index: 0, Count: 3}, {Height: 30, Index: 1, Count: 3}, {Height: 7, Index: 2, Count: 3}}
	if slots := lines.Slots(got, false); !slices.Equal(slots, want) {
		t.Errorf("Slots: %v", slots)
	}
}

package items_test

import (
	"slices"
	"strings"
	"testing"

	"reglet/api"
	"reglet/items"
	"reglet/metrics"
	"reglet/scaled"
)

// Items of so many bytes; laid puts them one behind the other.

func box(width, size int) api.Item { return api.Item{Kind: api.Box, Width: width, To: size} }

func glue(width, stretch, shrink int) api.Item {
	return api.Item{Kind: api.Glue, Width: width, Stretch: stretch, Shrink: shrink, To: 1}
}

func hyphen() api.Item { return api.Item{Kind: api.Penalty, Cost: 50, Flag: true} }

func soft(width int) api.Item {
	return api.Item{Kind: api.Penalty, Width: width, Cost: 50, Flag: true, To: 2}
}

func gap() api.Item { return api.Item{Kind: api.Penalty, To: 3} }

func joiner() api.Item { return api.Item{Kind: api.Penalty, Cost: 10000, To: 3} }

func fill() api.Item { return api.Item{Kind: api.Glue, Fill: true} }

func forced(size int) api.Item { return api.Item{Kind: api.Penalty, Cost: -10000, To: size} }

func laid(list ...api.Item) []api.Item {
	at := 0
	for k := range list {
		list[k].From, list[k].To = at, at+list[k].To
		at = list[k].To
	}
	return list
}

// holdsBuild asks Build for these items, and holds them against the sentence.
func holdsBuild(t *testing.T, list []api.Style, text string, cut []api.Run, want []api.Item) {
	t.Helper()
	got, e := items.Build(made(t, list), text, cut)
	if e != api.OK || !slices.Equal(got, want) {
		t.Errorf("Build(%q, %v):\n%v, %d, not\n%v", text, cut, got, e, want)
	}
	if model := told(list, text, cut); !slices.Equal(model, want) {
		t.Errorf("the sentence says of %q, %v:\n%v, not\n%v", text, cut, model, want)
	}
}

// The chapter's example, and what breaks cost.
func TestExample(t *testing.T) {
	list := metrics.Plain(10, 6)
	want := laid(box(12, 2), hyphen(), box(6, 1), fill(), forced(0))
	holdsBuild(t, list, "a-b", whole("a-b", 0), want)
	if items.HyphenCost != 50 || items.Never != 10000 || items.Always != -10000 {
		t.Errorf("costs %d, %d, %d", items.HyphenCost, items.Never, items.Always)
	}
}

// P7.2: every kind of rune, alone, in a row, behind and ahead of a letter, each with a line end and without.
func TestBuildKinds(t *testing.T) {
	for _, c := range []struct {
		text string
		want []api.Item
	}{
		// Letters and what goes with them.
		{"a", laid(box(21, 1))}, {"Q", laid(box(7, 1))}, {"aQ\u00e9", laid(box(52, 4))}, {"\u20ac\U0001f600", laid(box(32, 7))}, {"\x00\r\u010a", laid(box(21, 4))},
		{"\u00a0", laid(box(9, 2))}, {"\u202f\u00a0", laid(box(18, 5))}, {"a\u00a0b", laid(box(51, 4))}, {"\u202fa", laid(box(30, 4))}, {"a\u202f", laid(box(30, 4))},
		// Hyphens: each stays with what is ahead of it, and nothing behind it goes on with its Box.
		{"-", laid(box(7, 1), hyphen())}, {"\u2010", laid(box(25, 3), hyphen())}, {"--", laid(box(7, 1), hyphen(), box(7, 1), hyphen())}, {"a-", laid(box(28, 2), hyphen())}, {"-a", laid(box(7, 1), hyphen(), box(21, 1))},
		{"a\u2010b", laid(box(46, 4), hyphen(), box(21, 1))}, {"-\u00a0", laid(box(7, 1), hyphen(), box(9, 2))}, {"\u00a0-", laid(box(16, 3), hyphen())}, {"a-b-c", laid(box(28, 2), hyphen(), box(28, 2), hyphen(), box(21, 1))},
		// Spaces.
		{" ", laid(glue(9, 4, 3))}, {"\t", laid(glue(9, 4, 3))}, {" \t ", laid(glue(9, 4, 3), glue(9, 4, 3), glue(9, 4, 3))}, {" a", laid(glue(9, 4, 3), box(21, 1))}, {"a ", laid(box(21, 1), glue(9, 4, 3))},
		{"ab cd", laid(box(42, 2), glue(9, 4, 3), box(42, 2))}, {"- -", laid(box(7, 1), hyphen(), glue(9, 4, 3), box(7, 1), hyphen())},
		// Soft hyphens, gaps, joiners.
		{"\u00ad", laid(soft(5))}, {"\u00ad\u00ad", laid(soft(5), soft(5))}, {"a\u00adb", laid(box(21, 1), soft(5), box(21, 1))}, {"\u00ada", laid(soft(5), box(21, 1))}, {"a\u00ad", laid(box(21, 1), soft(5))},
		{"\u200b", laid(gap())}, {"\u200b\u200b", laid(gap(), gap())}, {"a\u200bb", laid(box(21, 1), gap(), box(21, 1))}, {"\u200ba", laid(gap(), box(21, 1))}, {"a\u200b", laid(box(21, 1), gap())},
		{"\u2060", laid(joiner())}, {"\ufeff\u2060", laid(joiner(), joiner())}, {"a\u2060b", laid(box(21, 1), joiner(), box(21, 1))}, {"\ufeffa", laid(joiner(), box(21, 1))}, {"a\ufeff", laid(box(21, 1), joiner())},
		{"a-\u2060b", laid(box(28, 2), hyphen(), joiner(), box(21, 1))}, {"a\u2060-b", laid(box(21, 1), joiner(), box(7, 1), hyphen(), box(21, 1))},
		// New lines.
		{"\u2028", laid(fill(), forced(3))}, {"\u2028\u2028", laid(fill(), forced(3), fill(), forced(3))}, {"a\u2028b", laid(box(21, 1), fill(), forced(3), box(21, 1))}, {"\u2028a", laid(fill(), forced(3), box(21, 1))}, {"a\u2028", laid(box(21, 1), fill(), forced(3))},
		{"a \u2028 b", laid(box(21, 1), glue(9, 4, 3), fill(), forced(3), glue(9, 4, 3), box(21, 1))},
		// All of them.
		{"a-b c\u00add\u200be\u2060f\u00a0\u2028\t", laid(box(28, 2), hyphen(), box(21, 1), glue(9, 4, 3), box(21, 1), soft(5), box(21, 1), gap(), box(21, 1), joiner(), box(30, 3), fill(), forced(3), glue(9, 4, 3))},
	} {
		open := laid(append(unlaid(c.want), fill(), forced(0))...)
		holdsBuild(t, styles(), c.text, whole(c.text, 0), open)
		ended := laid(append(unlaid(c.want), fill(), forced(1))...)
		holdsBuild(t, styles(), c.text+"\n", whole(c.text+"\n", 0), ended)
	}
	holdsBuild(t, styles(), "\n", whole("\n", 0), laid(fill(), forced(1)))
}

// unlaid: items with how many bytes they have, as laid takes them.
func unlaid(list []api.Item) []api.Item {
	list = slices.Clone(list)
	for k := range list {
		list[k].From, list[k].To = 0, list[k].To-list[k].From
	}
	return list
}

// P7.2: each rune in its own style; Boxes of one style come together, also over the ends of runs, and of others don't.
func TestBuildStyles(t *testing.T) {
	for _, c := range []struct {
		text string
		cut  []api.Run
		want []api.Item
	}{
		{"ab", runs(1, 0, 1, 1), laid(box(21, 1), box(17, 1), fill(), forced(0))},
		{"ab", runs(1, 0, 1, 0), laid(box(42, 2), fill(), forced(0))},
		{"ab", runs(1, 0, 0, 1, 1, 0), laid(box(42, 2), fill(), forced(0))},
		{"ab", runs(0, 1, 2, 0, 0, 2), laid(box(42, 2), fill(), forced(0))},
		{"abc", runs(1, 0, 1, 1, 1, 0), laid(box(21, 1), box(17, 1), box(21, 1), fill(), forced(0))},
		{"abcd", runs(1, 2, 1, 2, 1, 1, 1, 1), laid(box(28, 2), box(34, 2), fill(), forced(0))},
		{"a\u00a0\u00a0b", runs(3, 0, 3, 2), laid(box(30, 3), box(24, 3), fill(), forced(0))},
		// A Fast behind a Box of the same style and of another one; behind what is no Box.
		{"a\u202f", runs(1, 1, 3, 1), laid(box(28, 4), fill(), forced(0))},
		{"a\u202f", runs(1, 1, 3, 2), laid(box(17, 1), box(10, 3), fill(), forced(0))},
		{" \u202f", runs(1, 1, 3, 1), laid(glue(11, 6, 2), box(11, 3), fill(), forced(0))},
		// A Box behind something else stays apart from the Box ahead of that, whatever the styles.
		{"a b", runs(1, 1, 1, 0, 1, 1), laid(box(17, 1), glue(9, 4, 3), box(17, 1), fill(), forced(0))},
		{"a\u2060b", runs(1, 1, 3, 1, 1, 1), laid(box(17, 1), joiner(), box(17, 1), fill(), forced(0))},
		{"a\u2028b", runs(1, 2, 3, 0, 1, 2), laid(box(14, 1), fill(), forced(3), box(14, 1), fill(), forced(0))},
		// Hyphens: behind a Box of the same style and of another one, and ahead of either.
		{"a-b", runs(2, 1, 1, 2), laid(box(34, 2), hyphen(), box(14, 1), fill(), forced(0))},
		{"a-b", runs(1, 0, 2, 1), laid(box(21, 1), box(17, 1), hyphen(), box(17, 1), fill(), forced(0))},
		{"a-b", runs(1, 0, 1, 2, 1, 0), laid(box(21, 1), box(14, 1), hyphen(), box(21, 1), fill(), forced(0))},
		// Spaces and soft hyphens have the measures of their own style.
		{"a  b", runs(1, 0, 1, 1, 1, 2, 1, 0), laid(box(21, 1), glue(11, 6, 2), glue(10, 15, 1), box(21, 1), fill(), forced(0))},
		{"\u00ad\u00ad\u00ad", runs(2, 0, 2, 1, 2, 2), laid(soft(5), soft(8), soft(16), fill(), forced(0))},
		// What has no measures has the same in every style.
		{"\u200b\u2060\u2028\n", runs(3, 2, 3, 1, 3, 2, 1, 1), laid(gap(), joiner(), fill(), forced(3), fill(), forced(1))},
		{"\u00e9\n", runs(2, 0, 1, 2), laid(box(24, 2), fill(), forced(1))},
	} {
		holdsBuild(t, styles(), c.text, c.cut, c.want)
	}
}

// P7.2: measures at both ends, and together by scaled.Add.
func TestBuildMeasures(t *testing.T) {
	none := []api.Style{{Height: 1}}
	text := "a -\u00ad"
	holdsBuild(t, none, text, whole(text, 0), laid(box(0, 1), glue(0, 0, 0), box(0, 1), hyphen(), soft(0), fill(), forced(0)))
	const most = api.MaxUnit
	great := []api.Style{{Height: most, Space: most, Stretch: most, Shrink: most, Hyphen: most, Other: most}}
	holdsBuild(t, great, text, whole(text, 0), laid(box(most, 1), glue(most, most, most), box(most, 1), hyphen(), soft(most), fill(), forced(0)))
	holdsBuild(t, great, "ab\u00a0c-", whole("ab\u00a0c-", 0), laid(box(5*most, 6), hyphen(), fill(), forced(0)))
	want := 0
	for range api.MaxText {
		want = scaled.Add(want, most)
	}
	long := strings.Repeat("a", api.MaxText)
	holdsBuild(t, great, long, whole(long, 0), laid(box(want, api.MaxText), fill(), forced(0)))
}

// P7.1, P7.2, P7.5: every text of up to four runes, one of each kind, with every choice of two styles for its runes.
func TestAllShortTexts(t *testing.T) {
	list := styles()
	m := made(t, list)
	parts := []string{"a", " ", "\u00a0", "\u00ad", "\u200b", "\u2060", "-", "\u2028", "\n"}
	var grow func(text string, cut []api.Run)
	grow = func(text string, cut []api.Run) {
		want := refused(len(list), text, cut)
		got, e := items.Build(m, text, cut)
		if e != want || e == api.OK && !slices.Equal(got, told(list, text, cut)) || e != api.OK && len(got) > 0 {
			t.Fatalf("Build(%q, %v): %v, %d", text, cut, got, e)
		}
		if e == api.OK {
			holdsBytes(t, text, got)
		}
		if len(cut) == 4 {
			return
		}
		for _, part := range parts {
			for style := range 2 {
				grow(text+part, append(slices.Clip(cut), api.Run{Len: len(part), Style: style}))
			}
		}
	}
	grow("", nil)
}

// holdsBytes is P7.5: the items are Right, and their bytes, one behind the other, the text's.
func holdsBytes(t *testing.T, text string, list []api.Item) {
	t.Helper()
	if e := items.Right(list); e != api.OK {
		t.Fatalf("Right of what Build tells of %q: %d, %v", text, e, list)
	}
	joined := ""
	for _, x := range list {
		joined += text[x.From:x.To]
	}
	if joined != text {
		t.Fatalf("the items' bytes of %q are %q", text, joined)
	}
}

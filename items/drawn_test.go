package items_test

import (
	"math"
	"math/rand/v2"
	"slices"
	"strings"
	"testing"

	"reglet/api"
	"reglet/items"
)

// P7.1, P7.2, P7.5: drawn paragraphs against the sentences.
func TestDrawnParagraphs(t *testing.T) {
	from := rand.New(rand.NewPCG(7, 2))
	list := styles()
	m := made(t, list)
	for range 30000 {
		text := drawnText(from, 24)
		cut := drawnRuns(from, text, len(list))
		want := refused(len(list), text, cut)
		got, e := items.Build(m, text, cut)
		if e != want || items.Check(m, text, cut) != want {
			t.Fatalf("Build(%q, %v): %d, not %d", text, cut, e, want)
		}
		if e != api.OK {
			continue
		}
		if model := told(list, text, cut); !slices.Equal(got, model) {
			t.Fatalf("Build(%q, %v):\n%v, not\n%v", text, cut, got, model)
		}
		holdsBytes(t, text, got)
	}
}

// spoilt: a text and runs with something done to them that may be a fault.
func spoilt(from *rand.Rand, text string, cut []api.Run) (string, []api.Run) {
	cut = slices.Clone(cut)
	switch k := from.IntN(max(len(cut), 1)); from.IntN(7) {
	case 0:
		at := from.IntN(len(text) + 1)
		return text[:at] + []string{"\n", "\xff", "\xe2", "\x80"}[from.IntN(4)] + text[at:], cut
	case 1:
		return text[:from.IntN(len(text)+1)], cut
	case 2:
		cut = append(cut, api.Run{Len: from.IntN(3) - 1, Style: from.IntN(4)})
	case 3:
		cut = cut[:k]
	case 4:
		if len(cut) > 0 {
			cut[k].Style = []int{-1, 3, 32, math.MinInt, math.MaxInt}[from.IntN(5)]
		}
	case 5:
		if len(cut) > 0 {
			cut[k].Len += from.IntN(5) - 2
		}
	case 6:
		if len(cut) > 0 {
			cut[k].Len = []int{-1, 99, math.MinInt, math.MaxInt}[from.IntN(4)]
		}
	}
	return text, cut
}

// P7.1: one or two faults in drawn paragraphs, and which one is told.
func TestDrawnFaults(t *testing.T) {
	from := rand.New(rand.NewPCG(7, 1))
	list := styles()
	m := made(t, list)
	seen := map[api.Errno]int{}
	for range 40000 {
		text := drawnText(from, 8)
		cut := drawnRuns(from, text, len(list))
		for range 1 + from.IntN(2) {
			text, cut = spoilt(from, text, cut)
		}
		want := refused(len(list), text, cut)
		seen[want]++
		if e := items.Check(m, text, cut); e != want {
			t.Fatalf("Check(%q, %v) = %d, not %d", text, cut, e, want)
		}
		if got, e := items.Build(m, text, cut); e != want || e != api.OK && len(got) > 0 {
			t.Fatalf("Build(%q, %v): %v, %d, not %d", text, cut, got, e, want)
		}
	}
	for _, e := range []api.Errno{api.OK, api.ErrUTF8, api.ErrItems, api.ErrStyle, api.ErrInside} {
		if seen[e] < 100 {
			t.Errorf("the error %d came %d times only", e, seen[e])
		}
	}
}

// P7.3, P7.4: the items of drawn paragraphs with fields changed, against the sentences.
func TestDrawnItems(t *testing.T) {
	from := rand.New(rand.NewPCG(7, 4))
	list := styles()
	m := made(t, list)
	numbers := []int{math.MinInt, -10001, -10000, -1, 0, 0, 1, 2, 3, 4, 50, 10000, 10001, 1 << 36, 1<<36 + 1, math.MaxInt}
	for range 20000 {
		text := drawnText(from, 6) + "a"
		got, e := items.Build(m, strings.ReplaceAll(text, "\n", " "), whole(text, from.IntN(3)))
		if e != api.OK {
			t.Fatal(e)
		}
		for range from.IntN(3) {
			x := &got[from.IntN(len(got))]
			field := []*int{&x.Kind, &x.Width, &x.Stretch, &x.Shrink, &x.Cost, &x.From, &x.To}[from.IntN(7)]
			*field = numbers[from.IntN(len(numbers))]
			x.Fill = x.Fill != (from.IntN(9) == 0)
			x.Flag = x.Flag != (from.IntN(9) == 0)
		}
		if e := items.Right(got); (e == api.OK) == faulty(got) || e != api.OK && e != api.ErrItems {
			t.Fatalf("Right(%v) = %d", got, e)
		}
		for k, x := range got {
			want := x.Kind == 3 && x.Cost < 10000 || x.Kind == 2 && !x.Fill && k > 0 && got[k-1].Kind == 1
			if items.Legal(got, k) != want || items.Forced(x) != (x.Kind == 3 && x.Cost <= -10000) {
				t.Fatalf("Legal or Forced of %d in %v", k, got)
			}
		}
	}
}

// P7.5: paragraphs as long as a document, of those runes that give the most items and the widest Boxes.
func TestLongParagraphs(t *testing.T) {
	great := made(t, []api.Style{{Height: 1, Space: api.MaxUnit, Stretch: api.MaxUnit, Shrink: api.MaxUnit, Hyphen: api.MaxUnit, Other: api.MaxUnit}})
	for _, c := range []struct {
		part  string
		count int
	}{
		{"a", 3}, {"-", 2*api.MaxText + 2}, {" ", api.MaxText + 2}, {"a ", api.MaxText + 2}, {"\u00ad", api.MaxText/2 + 2},
	} {
		text := strings.Repeat(c.part, api.MaxText/len(c.part))
		list, e := items.Build(great, text, whole(text, 0))
		if e != api.OK || len(list) != c.count || items.Right(list) != api.OK {
			t.Errorf("Build of many %q: %d items, %d, Right %d", c.part, len(list), e, items.Right(list))
		}
		if end := list[len(list)-1]; end.To != api.MaxText || !items.Forced(end) {
			t.Errorf("many %q end with %v", c.part, end)
		}
	}
	// The same with as many runs as there are bytes, and empty ones between.
	text := strings.Repeat("a", api.MaxText-1) + "\n"
	var cut []api.Run
	for range api.MaxText {
		cut = append(cut, api.Run{Len: 1}, api.Run{})
	}
	list, e := items.Build(great, text, cut)
	if e != api.OK || len(list) != 3 || list[0].Width != api.MaxUnit*(api.MaxText-1) || items.Right(list) != api.OK {
		t.Errorf("Build of many runs: %d items, %d", len(list), e)
	}
}

// P1, P7.1: the chapter names no greatest length of a text: one that is longer than a document may be has its items, which aren't Right.
func TestTooLongParagraph(t *testing.T) {
	text := strings.Repeat("a", api.MaxText) + "\n"
	m := made(t, styles())
	list, e := items.Build(m, text, whole(text, 0))
	if e != api.OK || items.Check(m, text, whole(text, 0)) != api.OK || len(list) != 3 || list[0].To != api.MaxText || list[2].To != api.MaxText+1 {
		t.Errorf("Build of more than MaxText: %v, %d", list, e)
	}
	if e := items.Right(list); e != api.ErrItems {
		t.Errorf("Right of its items: %d", e)
	}
}

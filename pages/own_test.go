package pages_test

import (
	"slices"
	"testing"

	"reglet/api"
	"reglet/lines"
	"reglet/pages"
)

// Rule 4: what is handed in isn't changed, with its spare room.
func TestHandedInIsNotChanged(t *testing.T) {
	slots := document(even(5, 10), kept(para(10)), para(10, 20), even(9, 77))
	starts := []int{0, 3, 5, 99, 98}
	heights := laid(1, 2, 3, 4, 5, 6, 7, 88, 99)
	runs := heights[0].Runs[:1:2]
	heights[0].Runs = runs
	wantSlots, wantStarts, wantLines, wantRuns := slices.Clone(slots), slices.Clone(starts), copies(heights), slices.Clone(runs[:2])

	for _, set := range []api.Settings{asks(2, 2), {}} {
		pages.Right(slots[:8])
		pages.May(slots[0], set)
		pages.Paginate(slots[:8], 30, set)
		pages.Next(slots[:8], 2, 30, set)
		pages.Units(slots[:8], set)
	}
	pages.End(starts[:3], 2, 8)
	pages.Find(starts[:3], 4)
	pages.Heights(slots[:8], starts[:3])
	pages.Of(heights[:7], starts[:3])
	if !slices.Equal(slots, wantSlots) || !slices.Equal(starts, wantStarts) || !slices.EqualFunc(heights, wantLines, lines.Same) || !slices.Equal(runs[:2], wantRuns) {
		t.Errorf("%v, %v, %v, %v", slots, starts, heights, runs[:2])
	}
}

// copies: lines in memory of their own.
func copies(list []api.Line) []api.Line {
	var out []api.Line
	for _, l := range list {
		out = append(out, lines.Copy(l))
	}
	return out
}

// Rule 4: pages have lines of their own: neither a change of them is seen in what was handed in or in one another, nor the other way round.
func TestOfIsNew(t *testing.T) {
	list, starts := laid(1, 2, 3, 4, 5), []int{0, 2, 4}
	want := copies(list)
	first, second := pages.Of(list, starts), pages.Of(list, starts)
	for _, p := range first {
		p.Lines = p.Lines[:cap(p.Lines)]
		for k, l := range p.Lines {
			spoilRuns(l.Runs)
			p.Lines[k] = api.Line{Text: "spoilt"}
		}
	}
	if !slices.EqualFunc(list, want, lines.Same) {
		t.Errorf("the lines became %+v", list)
	}
	for k := range list {
		spoilRuns(list[k].Runs)
		list[k] = api.Line{Text: "spoilt"}
	}
	starts[1] = 1
	line := 0
	for _, p := range second {
		for _, l := range p.Lines {
			l.Y = want[line].Y
			if !lines.Same(l, want[line]) {
				t.Errorf("line %d became %+v", line, l)
			}
			line++
		}
	}
	if line != 5 {
		t.Errorf("%d lines", line)
	}
}

// spoilRuns changes runs, with their spare room.
func spoilRuns(list []api.Run) {
	list = list[:cap(list)]
	for k := range list {
		list[k] = api.Run{Len: 77, Style: 7}
	}
}

// Rule 4: lines that have one list of runs in common have one each on their pages.
func TestOfSharedRuns(t *testing.T) {
	runs := []api.Run{{Len: 1, Style: 1}}
	list := []api.Line{{Text: "a", Runs: runs}, {Text: "b", Runs: runs}}
	got := pages.Of(list, []int{0})
	spoilRuns(got[0].Lines[0].Runs)
	if other := got[0].Lines[1].Runs; len(other) != 1 || other[0] != (api.Run{Len: 1, Style: 1}) {
		t.Errorf("the other line's runs became %v", other)
	}
}

// Rule 4: numbers that are told are new memory each time.
func TestNumbersAreNew(t *testing.T) {
	list := document(even(5, 10), para(10), even(4, 10))
	asked := []func() []int{
		func() []int { starts, _ := pages.Paginate(list, 30, asks(2, 2)); return starts },
		func() []int { return pages.Units(list, asks(2, 2)) },
		func() []int { return pages.Heights(list, []int{0, 3, 6}) },
	}
	for n, ask := range asked {
		first := ask()
		want := slices.Clone(first)
		for k := range first[:cap(first)] {
			first[:cap(first)][k] = -77
		}
		if got := ask(); !slices.Equal(got, want) || len(got) < 3 {
			t.Errorf("list %d became %v of %v", n, got, want)
		}
	}
	starts := []int{0, 3, 6}
	told := pages.Heights(list, starts)
	told[0] = -77
	if !slices.Equal(starts, []int{0, 3, 6}) {
		t.Errorf("the starts became %v", starts)
	}
}

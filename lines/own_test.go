package lines_test

import (
	"slices"
	"testing"

	"reglet/api"
	"reglet/lines"
	"reglet/metrics"
)

// ownTasks: paragraphs of one line and of several, of one run and of several.
func ownTasks(t testing.TB) []task {
	m := made(t, styles())
	return []task{
		given(t, m, "\n", whole("\n", 1)),
		given(t, m, "aa bb cc\n", cut(4, 2, 1, 0, 4, 2)),
		given(t, m, "aa  \u00adbb-c\u2028d-", cut(1, 0, 3, 0, 0, 1, 9, 1, 2, 2)),
	}
}

// apart: lines of their own memory, so that later ones can be held against them.
func apart(list []api.Line) []api.Line {
	list = slices.Clone(list)
	for k := range list {
		list[k].Runs = slices.Clone(list[k].Runs)
	}
	return list
}

// spoilLines changes all that lines have, with their spare room.
func spoilLines(list []api.Line) {
	list = list[:cap(list)]
	for k := range list {
		spoil(list[k].Runs)
		list[k] = api.Line{Text: "spoilt", Y: 77}
	}
}

// spoilNumbers changes numbers, with their spare room.
func spoilNumbers(list []int) {
	list = list[:cap(list)]
	for k := range list {
		list[k] = -77
	}
}

// Rule 4: what is handed in isn't changed, with its spare room, nor is it kept.
func TestHandedIn(t *testing.T) {
	for _, k := range ownTasks(t) {
		for _, width := range []int{narrow, 30, 1000, 0} {
			room := append(slices.Clone(k.list), cut(77, 7, 78, 8)...)
			before := slices.Clone(room)
			got, b, _ := lines.Paragraph(k.m, k.text, room[:len(k.list)], width, tolerant(200))
			want := apart(got)
			ends := append(slices.Clone(b.Breaks), 77, 78)
			endsBefore := slices.Clone(ends)
			handed := api.Breaking{Breaks: ends[:len(b.Breaks)], Total: 5}
			cuts := lines.Cuts(k.p, handed.Breaks, len(k.text))
			cutsWant := slices.Clone(cuts)
			again := lines.Lay(k.m, k.text, room[:len(k.list)], k.p, handed, width)
			if !slices.Equal(room, before) || !slices.Equal(ends, endsBefore) {
				t.Errorf("the runs became %v, the breaks %v", room, ends)
			}
			spoil(room)
			spoilNumbers(ends)
			if !allAlike(got, want) || !allAlike(again, want) || !slices.Equal(cuts, cutsWant) {
				t.Errorf("the lines became %+v and %+v, the cuts %v", got, again, cuts)
			}
		}
		if !metrics.Same(k.m, made(t, styles())) {
			t.Error("the table became another one")
		}
		if fresh := given(t, k.m, k.text, k.list); fresh.p.Items() != k.p.Items() || !slices.Equal(fresh.p.Legal(), k.p.Legal()) {
			t.Error("the paragraph became another one")
		}
	}
}

// Rule 4: what is told is the asker's, with its spare room: nothing that is done to it is seen by another answer, nor one line's by another one.
func TestToldIsNew(t *testing.T) {
	for _, k := range ownTasks(t) {
		for _, width := range []int{narrow, 30, 1000} {
			first, b, _ := lines.Paragraph(k.m, k.text, k.list, width, tolerant(200))
			want, ends := apart(first), slices.Clone(b.Breaks)
			second, c, _ := lines.Paragraph(k.m, k.text, k.list, width, tolerant(200))
			third := lines.Lay(k.m, k.text, k.list, k.p, c, width)
			cuts := lines.Cuts(k.p, ends, len(k.text))
			for n := range first {
				spoil(first[n].Runs)
				if rest := first[n+1:]; !allAlike(rest, want[n+1:]) {
					t.Fatalf("a change of line %d made %+v of those behind it", n, rest)
				}
			}
			spoilLines(first)
			spoilNumbers(b.Breaks)
			spoilNumbers(cuts)
			if !allAlike(second, want) || !allAlike(third, want) || !slices.Equal(c.Breaks, ends) {
				t.Errorf("other answers became %+v and %+v, %v", second, third, c)
			}
			fourth, d, _ := lines.Paragraph(k.m, k.text, k.list, width, tolerant(200))
			if !allAlike(fourth, want) || !slices.Equal(d.Breaks, ends) || !slices.Equal(lines.Cuts(k.p, ends, len(k.text)), k.cuts(ends)) {
				t.Errorf("the next call told %+v, %v", fourth, d)
			}
		}
	}
}

// Rule 4: what looks at lines alone changes none of them.
func TestLookedAtAlone(t *testing.T) {
	for _, k := range ownTasks(t) {
		list, _, _ := lines.Paragraph(k.m, k.text, k.list, narrow, tolerant(200))
		want := apart(list)
		slots := lines.Slots(list, true)
		kept := slices.Clone(slots)
		other := lines.Slots(list, true)
		for n := range other[:cap(other)] {
			other[:cap(other)][n] = api.Slot{Height: 77}
		}
		lines.Text(list)
		for n, l := range list {
			lines.Shown(l)
			lines.Same(l, list[0])
			lines.Same(list[0], l)
			copied := lines.Copy(l)
			spoil(copied.Runs)
			if !alike(list[n], want[n]) {
				t.Errorf("line %d became %+v", n, list[n])
			}
		}
		if !allAlike(list, want) || !slices.Equal(slots, kept) {
			t.Errorf("the lines became %+v, the slots %v", list, slots)
		}
	}
}

// Rule 3: behind a refused call the next one answers as if there had been none.
func TestRefused(t *testing.T) {
	for _, k := range ownTasks(t) {
		want, wantBreaking, _ := lines.Paragraph(k.m, k.text, k.list, 30, tolerant(200))
		lines.Paragraph(k.m, k.text, k.list, 0, tolerant(200))
		lines.Paragraph(k.m, k.text, k.list, 30, api.Settings{})
		lines.Paragraph(k.m, k.text, k.list[1:], 30, tolerant(200))
		lines.Paragraph(k.m, k.text+"\xff", k.list, 30, tolerant(200))
		got, b, e := lines.Paragraph(k.m, k.text, k.list, 30, tolerant(200))
		if e != api.OK || !allAlike(got, want) || !sameBreaking(b, wantBreaking) {
			t.Errorf("behind refused calls: %+v, %v, %d", got, b, e)
		}
	}
}

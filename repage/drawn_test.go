package repage

import (
	"math/rand/v2"
	"slices"
	"testing"

	"reglet/api"
)

// drawnLines: a document's lines, in so many paragraphs at most, of which some are long, and some stay with the next.
func drawnLines(from *rand.Rand, paras int) []api.Slot {
	most, keeps := 1+from.IntN(6), 1+from.IntN(4)
	list := []api.Slot{}
	for range from.IntN(paras + 1) {
		heights := make([]int, 1+from.IntN(most))
		for k := range heights {
			heights[k] = 1 + from.IntN(12)
		}
		p := para(heights...)
		if from.IntN(4) < keeps-1 {
			p = kept(p)
		}
		list = append(list, p...)
	}
	return list
}

// drawnPart: mostly whole paragraphs of a book, now and then some other lines.
func drawnPart(from *rand.Rand, p *plain) (int, int) {
	if from.IntN(12) == 0 {
		return from.IntN(len(p.list)+6) - 3, from.IntN(len(p.list)+6) - 3
	}
	seams := p.seams()
	at := from.IntN(len(seams))
	many := from.IntN(min(4, len(seams)-at))
	if from.IntN(20) == 0 {
		many = len(seams) - 1 - at
	}
	return seams[at], seams[at+many] - seams[at]
}

// drawnCome: lines that come; now and then such as may not be, now and then such as were there.
func drawnCome(from *rand.Rand, p *plain, first, gone int) []api.Slot {
	switch from.IntN(12) {
	case 0:
		wrong := wrongLists()
		return wrong[from.IntN(len(wrong))]
	case 1, 2, 3, 4:
		if !p.refuses(first, gone, nil) {
			return slices.Clone(p.list[first : first+gone])
		}
	}
	return drawnLines(from, 4)
}

// seen counts what the drawn calls came to, so that no kind is left out.
type seen struct {
	refused, none, toEnd, atOnce, later, pages, resized int
}

// step does one drawn call with both.
func (x both) step(t *testing.T, from *rand.Rand, s *seen) {
	t.Helper()
	if from.IntN(8) == 0 {
		height := 1 + from.IntN(50)
		if from.IntN(8) == 0 {
			height = wrongHeights()[from.IntN(len(wrongHeights()))]
		}
		if _, e := x.resize(t, height); e == api.OK {
			s.resized++
		}
		return
	}
	first, gone := drawnPart(from, x.plain)
	come := drawnCome(from, x.plain, first, gone)
	page, built, e := x.replace(t, first, gone, come)
	s.count(x.book.Starts(), first+len(come), page, built, e)
}

func (s *seen) count(starts []int, behind, page, built int, e api.Errno) {
	if page > 0 {
		s.pages++
	}
	end := page + built
	switch {
	case e != api.OK:
		s.refused++
	case built == 0:
		s.none++
	case end == len(starts):
		s.toEnd++
	case starts[end-1] < behind:
		s.atOnce++ // the first page behind come was found
	default:
		s.later++ // at least one wasn't
	}
}

// P13.1 to P13.5: many calls in a row, of copies too, against pages that are all laid again each time.
func TestDrawnCalls(t *testing.T) {
	from := rand.New(rand.NewPCG(13, 1))
	var s seen
	for range 1500 {
		list := drawnLines(from, 12)
		books := []both{bothOf(t, list, 1+from.IntN(50), asks(1+from.IntN(4), 1+from.IntN(4)))}
		for range 40 {
			books[from.IntN(len(books))].step(t, from, &s)
			if len(books) < 4 && from.IntN(12) == 0 {
				books = append(books, books[from.IntN(len(books))].copy())
			}
			for _, x := range books {
				x.plain.agree(t, x.book)
			}
		}
	}
	if min(s.refused, s.none, s.toEnd, s.atOnce, s.later, s.pages, s.resized) < 1000 {
		t.Errorf("too few of a kind: %+v", s)
	}
}

// all: every list of so many paragraphs at most, of one line or two, low or high, that stay with the next one or don't.
func all(paras int) [][]api.Slot {
	kinds := [][]api.Slot{para(1), para(2), kept(para(1)), para(1, 1), kept(para(2, 1))}
	lists := [][]api.Slot{nil}
	for ahead := lists; paras > 0; paras-- {
		var longer [][]api.Slot
		for _, list := range ahead {
			for _, kind := range kinds {
				longer = append(longer, document(list, kind))
			}
		}
		lists = append(lists, longer...)
		ahead = longer
	}
	return lists
}

// P13.2, P13.4: every way to replace in every short list.
func TestAllShort(t *testing.T) {
	comes := all(1)
	comes = append(comes, para(1, 1, 1), document(para(2), kept(para(1))))
	for _, list := range all(4) {
		for _, height := range []int{1, 2, 3, 4} {
			for _, set := range []api.Settings{asks(1, 1), asks(2, 1)} {
				replaceAll(t, list, height, set, comes)
			}
		}
	}
}

func replaceAll(t *testing.T, list []api.Slot, height int, set api.Settings, comes [][]api.Slot) {
	t.Helper()
	x := bothOf(t, list, height, set)
	seams := x.plain.seams()
	for n, first := range seams {
		for _, end := range seams[n:] {
			for _, come := range comes {
				if _, _, e := x.copy().replace(t, first, end-first, come); e != api.OK {
					t.Fatalf("Replace(%d, %d, %v): %d", first, end-first, come, e)
				}
			}
		}
	}
	x.plain.agree(t, x.book)
}

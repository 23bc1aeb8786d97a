package pages_test

import (
	"math/rand/v2"
	"slices"
	"testing"

	"reglet/api"
	"reglet/pages"
)

// drawnLines: a document's lines, in paragraphs of which some are long, and some stay with the next.
func drawnLines(from *rand.Rand) []api.Slot {
	most, keeps := 1+from.IntN(9), 1+from.IntN(4)
	list := []api.Slot{}
	for range from.IntN(9) {
		heights := make([]int, 1+from.IntN(most))
		for k := range heights {
			heights[k] = 1 + from.IntN(12)
		}
		p := para(heights...)
		if from.IntN(keeps) > 0 {
			p = kept(p)
		}
		list = append(list, p...)
	}
	return list
}

// count: 1, if something holds.
func count(holds bool) int {
	if holds {
		return 1
	}
	return 0
}

// P12.2 to P12.5: drawn lists against the plain search. Counted is what the pages are like, so that none of these is left out.
func TestDrawnPages(t *testing.T) {
	from := rand.New(rand.NewPCG(12, 1))
	var many, full, high, cut int
	for range 30000 {
		list := drawnLines(from)
		height := 1 + from.IntN(60)
		got := holds(t, list, height, asks(1+from.IntN(4), 1+from.IntN(4)))
		for page, h := range pages.Heights(list, got) {
			many += count(page > 1)
			full += count(h == height)
			high += count(h > height)
			cut += count(list[got[page]].Index > 0)
		}
	}
	if min(many, full, high, cut) < 3000 {
		t.Errorf("%d third and later pages, %d just full, %d too high, %d that begin within a paragraph", many, full, high, cut)
	}
}

// P12.3, P12.4: Of and Find for drawn pages: every line on one page, in order, with its Y.
func TestDrawnBooks(t *testing.T) {
	from := rand.New(rand.NewPCG(12, 2))
	for range 5000 {
		list := drawnLines(from)
		var heights, ys []int
		for _, s := range list {
			heights = append(heights, s.Height)
		}
		starts, e := pages.Paginate(list, 1+from.IntN(60), asks(1+from.IntN(4), 1+from.IntN(4)))
		if e != api.OK {
			t.Fatal(e)
		}
		page, y := -1, 0
		for line, h := range heights {
			if slices.Contains(starts, line) {
				page, y = page+1, 0
			}
			if got := pages.Find(starts, line); got != page {
				t.Fatalf("Find(%v, %d): %d, not %d", starts, line, got, page)
			}
			ys = append(ys, y)
			y += h
		}
		wantOf(t, laid(heights...), starts, ys)
	}
}

// spoilt: a document's lines with one thing changed, which may be none.
func spoilt(from *rand.Rand, list []api.Slot) []api.Slot {
	if len(list) == 0 {
		return list
	}
	at := from.IntN(len(list))
	s := &list[at]
	switch from.IntN(6) {
	case 0:
		s.Height = []int{-1, 0, 1, api.MaxUnit, api.MaxUnit + 1}[from.IntN(5)]
	case 1:
		s.Index += from.IntN(3) - 1
	case 2:
		s.Count += from.IntN(3) - 1
	case 3:
		s.Keep = !s.Keep
	case 4:
		return slices.Delete(list, at, at+1)
	case 5:
		return list[at:]
	}
	return list
}

// isRight: by the chapter's words, is there a way to cut the lines into paragraphs?
func isRight(list []api.Slot) bool {
	var whole []api.Slot
	for _, s := range list {
		if s.Height < 1 || s.Height > api.MaxUnit {
			return false
		}
		if s.Index != 0 {
			continue
		}
		for k := range s.Count {
			whole = append(whole, api.Slot{Index: k, Count: s.Count, Keep: s.Keep})
		}
	}
	return slices.EqualFunc(list, whole, func(a, b api.Slot) bool {
		return a.Index == b.Index && a.Count == b.Count && a.Keep == b.Keep
	})
}

// P12.1, P12.2: Right of drawn lists, right ones and spoilt ones; Paginate tells the same error.
func TestDrawnRight(t *testing.T) {
	from := rand.New(rand.NewPCG(12, 3))
	right := 0
	for range 30000 {
		list := drawnLines(from)
		for range from.IntN(3) {
			list = spoilt(from, list)
		}
		want := api.ErrRange
		if isRight(list) {
			want = api.OK
			right++
		}
		wantRight(t, list, want)
		if _, e := pages.Paginate(list, 30, asks(2, 2)); e != want {
			t.Fatalf("Paginate(%v): %d, not %d", list, e, want)
		}
	}
	if right < 10000 || right > 20000 {
		t.Errorf("%d of 30000 are right", right)
	}
}

// Pages are found in one go over the lines, also where much stays together: a list as long as a document's can be, with parts that don't fit.
func TestManyLines(t *testing.T) {
	const many = api.MaxText
	for _, part := range [][]api.Slot{para(10), even(97, 10), kept(para(10)), document(para(1), slices.Repeat(kept(para(1)), 4000))} {
		list := slices.Repeat(part, many/len(part))
		for _, height := range []int{1, 30, 4000, 40000, api.MaxMeasure} {
			for _, set := range []api.Settings{asks(1, 1), asks(50, 50), asks(100, 100)} {
				starts, e := pages.Paginate(list, height, set)
				if e != api.OK {
					t.Fatal(e)
				}
				follows(t, list, starts, pages.Units(list, set), height)
			}
		}
	}
}

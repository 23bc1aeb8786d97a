package diff_test

import (
	"math/rand/v2"
	"slices"
	"strings"
	"testing"

	"reglet/api"
	"reglet/diff"
	"reglet/lines"
	"reglet/measure"
	"reglet/metrics"
	"reglet/pages"
)

// drawnNames: lines of a few names, so that many are alike.
func drawnNames(from *rand.Rand, most, names int) string {
	var out strings.Builder
	for range from.IntN(most + 1) {
		out.WriteByte(byte('a' + from.IntN(names)))
	}
	return out.String()
}

// drawnBook: pages of some lines, or of none.
func drawnBook(from *rand.Rand, most int) []api.Page {
	names := 1 + from.IntN(4)
	var list []api.Page
	for range from.IntN(most + 1) {
		list = append(list, page(drawnNames(from, 6, names)))
	}
	return list
}

// drawnNext: a layout with something changed on some of its pages, and some pages more or fewer at its end.
func drawnNext(from *rand.Rand, list []api.Page) []api.Page {
	next := diff.Copy(list)
	for n := range next {
		if from.IntN(3) != 0 {
			continue
		}
		was := next[n].Lines
		at := from.IntN(len(was) + 1)
		to := at + from.IntN(len(was)-at+1)
		next[n].Lines = slices.Concat(was[:at], rows(drawnNames(from, 3, 4)), was[to:])
	}
	switch from.IntN(3) {
	case 0:
		next = next[:from.IntN(len(next)+1)]
	case 1:
		next = append(next, drawnBook(from, 3)...)
	}
	return next
}

// kindsOf counts the regions of each kind.
func kindsOf(regions []api.Region) (is [4]int) {
	for _, r := range regions {
		is[r.Kind]++
	}
	return is
}

// P14.1 to P14.3, P14.5, P14.6: drawn layouts, one made of the other or apart from it.
func TestDrawnLayouts(t *testing.T) {
	from := rand.New(rand.NewPCG(14, 1))
	var kinds [4]int
	none, inside := 0, 0
	for range 20000 {
		a := drawnBook(from, 6)
		b := drawnNext(from, a)
		if from.IntN(4) == 0 {
			b = drawnBook(from, 6)
		}
		regions := holdsBack(t, a, b)
		for kind, many := range kindsOf(regions) {
			kinds[kind] += many
		}
		if len(regions) == 0 {
			none++
		}
		in, out := diff.Count(regions)
		if wantIn, wantOut := counted(regions); in != wantIn || out != wantOut {
			t.Fatalf("Count(%v): %d, %d", regions, in, out)
		}
		for n := range min(len(a), len(b)) {
			holdsPage(t, n, a[n], b[n])
			if k, m := diff.Ends(a[n], b[n]); k > 0 && m > 0 {
				inside++
			}
		}
		holdsDiff(t, a, b, from.IntN(10)-2)
		if !samePages(diff.Copy(a), a) {
			t.Fatalf("Copy of %v: %v", a, diff.Copy(a))
		}
	}
	if min(kinds[api.Changed], kinds[api.Added], kinds[api.Gone], none, inside) < 1000 {
		t.Errorf("too few of a kind: %v, %d without, %d with two ends", kinds, none, inside)
	}
}

// counted: lines one by one.
func counted(regions []api.Region) (in, out int) {
	for _, r := range regions {
		for range r.Lines {
			in++
		}
		for range r.Old {
			out++
		}
	}
	return in, out
}

// drawnRegions: regions that could be done to pages, of which some are then put wrong.
func drawnRegions(from *rand.Rand, list []api.Page) []api.Region {
	regions := diff.Diff(list, drawnNext(from, list), 0)
	if len(regions) == 0 || from.IntN(4) == 0 {
		return regions
	}
	k := from.IntN(len(regions))
	r := &regions[k]
	switch from.IntN(9) {
	case 0:
		r.Page += from.IntN(5) - 2
	case 1:
		r.Kind = from.IntN(5)
	case 2:
		r.From += from.IntN(3) - 1
	case 3:
		r.Old += from.IntN(3) - 1
	case 4:
		r.Lines = rows(drawnNames(from, 2, 4))
	case 5:
		regions = slices.Delete(regions, k, k+1)
	case 6:
		regions = slices.Insert(regions, k, regions[from.IntN(len(regions))])
	case 7:
		other := from.IntN(len(regions))
		regions[k], regions[other] = regions[other], regions[k]
	case 8:
		r.From, r.Old = maxInt-from.IntN(4), maxInt-from.IntN(4)
	}
	return regions
}

// P14.4: drawn regions, right ones and wrong ones, against the chapter's words one by one.
func TestDrawnPatches(t *testing.T) {
	from := rand.New(rand.NewPCG(14, 2))
	right, wrong := 0, 0
	for range 60000 {
		list := drawnBook(from, 5)
		if _, e := holdsPatch(t, list, drawnRegions(from, list)); e == api.OK {
			right++
		} else {
			wrong++
		}
	}
	if min(right, wrong) < 10000 {
		t.Errorf("too few of a kind: %d right, %d wrong", right, wrong)
	}
}

// laidOut: a text's pages, as the layers below lay them.
func laidOut(t *testing.T, table *metrics.Table, text string, width, height int) []api.Page {
	t.Helper()
	var all []api.Line
	var slots []api.Slot
	for _, para := range strings.SplitAfter(text, "\n") {
		if para == "" {
			continue
		}
		list, _, e := lines.Paragraph(table, para, []api.Run{{Len: len(para)}}, width, measure.Usual())
		if e != api.OK {
			t.Fatalf("Paragraph: %d", e)
		}
		all = append(all, list...)
		slots = append(slots, lines.Slots(list, false)...)
	}
	starts, e := pages.Paginate(slots, height, measure.Usual())
	if e != api.OK {
		t.Fatalf("Paginate: %d", e)
	}
	return pages.Of(all, starts)
}

// P14.6: layouts of texts, behind one edit after the other.
func TestLaidOut(t *testing.T) {
	table, e, _ := metrics.New(metrics.Plain(10, 6))
	if e != api.OK {
		t.Fatalf("New: %d", e)
	}
	from := rand.New(rand.NewPCG(14, 3))
	words := []string{"a ", "bb ", "ccc ", "dd-dd ", "\n", "e\n", "ffff "}
	var kinds [4]int
	for range 60 {
		var text []string
		was := laidOut(t, table, "", 60, 40)
		for range 40 {
			at := from.IntN(len(text) + 1)
			to := at + from.IntN(min(4, len(text)-at+1))
			var come []string
			for range from.IntN(7) {
				come = append(come, words[from.IntN(len(words))])
			}
			text = slices.Concat(text[:at], come, text[to:])
			now := laidOut(t, table, strings.Join(text, ""), 60, 40)
			for kind, many := range kindsOf(holdsBack(t, was, now)) {
				kinds[kind] += many
			}
			was = now
		}
	}
	if min(kinds[api.Changed], kinds[api.Added], kinds[api.Gone]) < 100 {
		t.Errorf("too few of a kind: %v", kinds)
	}
}

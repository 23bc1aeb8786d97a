package lines_test

import (
	"math/rand/v2"
	"strings"
	"testing"

	"reglet/api"
	"reglet/lines"
	"reglet/measure"
)

// pick: one of these numbers.
func pick(from *rand.Rand, list ...int) int { return list[from.IntN(len(list))] }

// P10.1, P10.2, P10.4: drawn paragraphs against the sentences. Counted is how many lines there were of each kind, so that none is left out.
func TestDrawnParagraphs(t *testing.T) {
	from := rand.New(rand.NewPCG(10, 1))
	m := made(t, styles())
	var stretched, shrunk, hyphens, empty, cutRuns int
	for range 15000 {
		text := drawnText(from, 40)
		k := given(t, m, text, drawnRuns(from, text, len(styles())))
		got, _ := k.holds(t, pick(from, 1, 10, 25, 40, 60, 60, 90, 150, 1000), tolerant(pick(from, 0, 200, 10000)))
		for _, l := range got {
			stretched += count(l.Num > 0)
			shrunk += count(l.Num < 0)
			hyphens += count(l.Hyphen)
			empty += count(l.Text == "")
			cutRuns += count(len(l.Runs) > 1)
		}
	}
	if min(stretched, shrunk, hyphens, empty, cutRuns) < 500 {
		t.Errorf("%d lines stretched, %d shrunk, %d with a hyphen, %d without bytes, %d of several runs", stretched, shrunk, hyphens, empty, cutRuns)
	}
}

// count: 1, if something holds.
func count(holds bool) int {
	if holds {
		return 1
	}
	return 0
}

// P10.2, P10.4: drawn ways through drawn paragraphs, not just the cheapest ones.
func TestDrawnWays(t *testing.T) {
	from := rand.New(rand.NewPCG(10, 2))
	m := made(t, styles())
	for range 15000 {
		text := drawnText(from, 30)
		k := given(t, m, text, drawnRuns(from, text, len(styles())))
		var list []int
		for _, b := range k.p.Legal() {
			if k.p.Item(b).Cost == -10000 || from.IntN(3) > 0 {
				list = append(list, b)
			}
		}
		k.holdsLaid(t, list, pick(from, 1, 20, 60, 1000))
	}
}

// P10.3: Shown of drawn texts, by striking out first, and the Spaces then.
func TestDrawnShown(t *testing.T) {
	from := rand.New(rand.NewPCG(10, 4))
	strike := strings.NewReplacer("\u00ad", "", "\u200b", "", "\u2060", "", "\ufeff", "", "\u2028", "", "\n", "")
	for range 20000 {
		l := api.Line{Text: drawnText(from, 12), Hyphen: from.IntN(2) == 0}
		want := strings.TrimRight(strike.Replace(l.Text), " \t")
		if l.Hyphen {
			want += "-"
		}
		if got := lines.Shown(l); got != want {
			t.Fatalf("Shown(%+v) = %q, not %q", l, got, want)
		}
	}
}

// P10.4: a paragraph as long as a document, in many lines and many runs.
func TestLongParagraph(t *testing.T) {
	m := made(t, styles())
	const part = "aa b-c\u00add  \u200be\u2028"
	text := strings.Repeat(part, api.MaxText/len(part))
	var list []api.Run
	for n := range len(text) / len(part) {
		list = append(list, cut(1, n%3, 9, (n+1)%3, len(part)-10, n%2)...)
	}
	k := given(t, m, text, list)
	for _, width := range []int{1, 40, 1000} {
		got, b, e := lines.Paragraph(m, text, list, width, measure.Usual())
		if e != api.OK || len(got) != len(b.Breaks) || len(got) < len(text)/len(part) {
			t.Fatalf("width %d: %d lines, %d breaks, %d", width, len(got), len(b.Breaks), e)
		}
		if model := k.laid(b.Breaks, width); !allAlike(got, model) {
			t.Errorf("width %d: the lines are others", width)
		}
		if lines.Text(got) != text || len(lines.Slots(got, true)) != len(got) {
			t.Errorf("width %d: the lines' bytes are others", width)
		}
	}
}

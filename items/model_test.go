package items_test

import (
	"math/rand/v2"
	"slices"
	"strings"
	"testing"
	"unicode/utf8"

	"reglet/api"
	"reglet/metrics"
)

// styles: such as have no two measures alike, of several ranges, of one, and of none.
func styles() []api.Style {
	return []api.Style{
		{Height: 12, Space: 9, Stretch: 4, Shrink: 3, Hyphen: 5, Other: 7, Keep: true, Ranges: []api.Range{{Lo: 'a', Hi: 'f', Width: 21}, {Lo: 0xE0, Hi: 0xFF, Width: 24}, {Lo: 0x2000, Hi: 0x2FFF, Width: 25}}},
		{Height: 30, Space: 11, Stretch: 6, Shrink: 2, Hyphen: 8, Other: 13, Ranges: []api.Range{{Lo: 0, Hi: 0x10FFFF, Width: 17}}},
		{Height: 20, Space: 10, Stretch: 15, Shrink: 1, Hyphen: 16, Other: 14},
	}
}

// made: a table of styles that have no fault.
func made(t testing.TB, list []api.Style) *metrics.Table {
	t.Helper()
	m, e, at := metrics.New(list)
	if e != api.OK {
		t.Fatalf("New: %d at %d", e, at)
	}
	return m
}

// refused is P7.1's sentence: what Check answers for a table of so many styles.
func refused(many int, text string, list []api.Run) api.Errno {
	if !utf8.ValidString(text) {
		return api.ErrUTF8
	}
	if len(text) == 0 || strings.Contains(strings.TrimSuffix(text, "\n"), "\n") {
		return api.ErrItems
	}
	left := text
	for _, run := range list {
		switch {
		case run.Len < 0 || run.Len > len(left):
			return api.ErrItems
		case run.Style < 0 || run.Style >= many:
			return api.ErrStyle
		case !utf8.ValidString(left[:run.Len]):
			return api.ErrInside
		}
		left = left[run.Len:]
	}
	if left != "" {
		return api.ErrItems
	}
	return api.OK
}

// wide: how wide a rune of a Box is.
func wide(s api.Style, r rune) int {
	if r == 0xA0 || r == 0x202F {
		return s.Space
	}
	for _, x := range s.Ranges {
		if x.Lo <= int(r) && int(r) <= x.Hi {
			return x.Width
		}
	}
	return s.Other
}

// alone: the items of a rune that has nothing ahead, its bytes those from 0 on.
func alone(s api.Style, r rune) []api.Item {
	size := utf8.RuneLen(r)
	switch r {
	case 0x20, 0x9:
		return []api.Item{{Kind: 2, Width: s.Space, Stretch: s.Stretch, Shrink: s.Shrink, To: size}}
	case 0xAD:
		return []api.Item{{Kind: 3, Width: s.Hyphen, Cost: 50, Flag: true, To: size}}
	case 0x200B:
		return []api.Item{{Kind: 3, To: size}}
	case 0x2060, 0xFEFF:
		return []api.Item{{Kind: 3, Cost: 10000, To: size}}
	case 0x2D, 0x2010:
		return []api.Item{{Kind: 1, Width: wide(s, r), To: size}, {Kind: 3, Cost: 50, Flag: true, From: size, To: size}}
	case 0x2028, 0xA:
		return []api.Item{{Kind: 2, Fill: true}, {Kind: 3, Cost: -10000, To: size}}
	}
	return []api.Item{{Kind: 1, Width: wide(s, r), To: size}}
}

// told is P7.2's sentence: the items of a paragraph that has no fault. Every rune is taken alone first; Boxes in a row of one style are joined then.
func told(list []api.Style, text string, cut []api.Run) []api.Item {
	var byByte []int
	for _, run := range cut {
		byByte = append(byByte, slices.Repeat([]int{run.Style}, run.Len)...)
	}
	var all []api.Item
	var of []int // the style of each
	for at, r := range text {
		for _, x := range alone(list[byByte[at]], r) {
			x.From, x.To = x.From+at, x.To+at
			all, of = append(all, x), append(of, byByte[at])
		}
	}
	if !strings.HasSuffix(text, "\n") {
		end := len(text)
		all, of = append(all, api.Item{Kind: 2, Fill: true, From: end, To: end}, api.Item{Kind: 3, Cost: -10000, From: end, To: end}), append(of, 0, 0)
	}
	for k := len(all) - 1; k > 0; k-- {
		if all[k].Kind == 1 && all[k-1].Kind == 1 && of[k] == of[k-1] {
			all[k-1].Width += all[k].Width
			all[k-1].To = all[k].To
			all, of = slices.Delete(all, k, k+1), slices.Delete(of, k, k+1)
		}
	}
	return all
}

// faulty is P7.4's sentence: has a list a fault?
func faulty(list []api.Item) bool {
	n := len(list)
	if n < 1 || n > 262144 || list[n-1].Kind != 3 || list[n-1].Cost > -10000 {
		return true
	}
	for k, x := range list {
		begin := 0
		if k > 0 {
			begin = list[k-1].To
		}
		if x.From != begin || x.To < x.From || x.To > 65536 || faultyItem(x) {
			return true
		}
	}
	return false
}

// faultyItem: has an item a fault, wherever it stands?
func faultyItem(x api.Item) bool {
	for _, n := range []int{x.Width, x.Stretch, x.Shrink} {
		if n < 0 || n > 68719476736 {
			return true
		}
	}
	bare := x
	bare.From, bare.To = 0, 0
	switch x.Kind {
	case 1:
		return bare != api.Item{Kind: 1, Width: x.Width}
	case 2:
		if x.Fill {
			return bare != api.Item{Kind: 2, Fill: true}
		}
		return bare != api.Item{Kind: 2, Width: x.Width, Stretch: x.Stretch, Shrink: min(x.Width, x.Shrink)}
	case 3:
		return bare != api.Item{Kind: 3, Width: x.Width, Cost: min(10000, max(-10000, x.Cost)), Flag: x.Flag}
	}
	return true
}

// kinds: a rune of every kind that may stand within a paragraph, of one byte to four.
func kinds() []rune {
	return []rune{'a', 'Q', 0xE9, 0x20AC, 0x1F600, ' ', '\t', 0xA0, 0x202F, 0xAD, 0x200B, 0x2060, 0xFEFF, '-', 0x2010, 0x2028, 0, '\r', 0x10A, 0xFFFD}
}

// drawnText: a right text of at most so many runes, with a line end at its end or without.
func drawnText(from *rand.Rand, most int) string {
	s := ""
	for range from.IntN(most + 1) {
		if from.IntN(3) == 0 {
			s += "a"
			continue
		}
		s += string(kinds()[from.IntN(len(kinds()))])
	}
	if from.IntN(2) == 0 {
		s += "\n"
	}
	return s
}

// drawnRuns: runs of a text's bytes that end between runes, empty ones and such as have the style ahead among them.
func drawnRuns(from *rand.Rand, text string, many int) []api.Run {
	var list []api.Run
	for left := text; left != ""; {
		n := from.IntN(min(len(left), 9) + 1)
		for n < len(left) && !utf8.RuneStart(left[n]) {
			n++
		}
		list = append(list, api.Run{Len: n, Style: from.IntN(many)})
		left = left[n:]
	}
	return list
}

// runs: of pairs of numbers, how many bytes and which style.
func runs(pairs ...int) []api.Run {
	list := []api.Run{}
	for pair := range slices.Chunk(pairs, 2) {
		list = append(list, api.Run{Len: pair[0], Style: pair[1]})
	}
	return list
}

// whole: one run of all of a text.
func whole(text string, style int) []api.Run { return runs(len(text), style) }

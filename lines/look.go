package lines

import (
	"slices"
	"strings"
	"unicode/utf8"

	"reglet/api"
	"reglet/runes"
	"reglet/runs"
)

// Text: of lines, one behind the other.
func Text(list []api.Line) string {
	var out strings.Builder
	for _, l := range list {
		out.WriteString(l.Text)
	}
	return out.String()
}

// Shown: what is seen of a line: no marks without a width, no spaces at its end; a hyphen, if one stands there.
func Shown(l api.Line) string {
	var shown []byte
	end := 0 // of the last rune that is no Space
	for _, r := range l.Text {
		kind := runes.Kind(r)
		if unseen(kind) {
			continue
		}
		shown = utf8.AppendRune(shown, r)
		if kind != runes.Space {
			end = len(shown)
		}
	}
	shown = shown[:end]
	if l.Hyphen {
		shown = append(shown, '-')
	}
	return string(shown)
}

// unseen: is nothing seen of runes of a kind, wherever they stand?
func unseen(kind int) bool {
	switch kind {
	case runes.Soft, runes.Gap, runes.Joiner, runes.NewLine, runes.NewPara:
		return true
	}
	return false
}

// Same: are two lines alike?
func Same(a, b api.Line) bool {
	glue := a.Num == b.Num && a.Den == b.Den
	place := a.Height == b.Height && a.Y == b.Y
	ends := a.Hyphen == b.Hyphen && a.Begin == b.Begin && a.End == b.End
	return glue && place && ends && a.Text == b.Text && runs.Same(a.Runs, b.Runs)
}

// Copy: a line in memory of its own.
func Copy(l api.Line) api.Line {
	l.Text = strings.Clone(l.Text)
	l.Runs = slices.Clone(l.Runs)
	return l
}

// Slots: lines of a paragraph as pages see them.
func Slots(list []api.Line, keep bool) []api.Slot {
	slots := make([]api.Slot, len(list))
	for k, l := range list {
		slots[k] = api.Slot{Height: l.Height, Index: k, Count: len(list), Keep: keep}
	}
	return slots
}

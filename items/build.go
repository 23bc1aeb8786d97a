package items

import (
	"reglet/api"
	"reglet/metrics"
	"reglet/runes"
	"reglet/scaled"
)

// Build: of a paragraph's text and its styles.
func Build(t *metrics.Table, text string, list []api.Run) ([]api.Item, api.Errno) {
	if e := Check(t, text, list); e != api.OK {
		return nil, e
	}
	b := builder{table: t}
	for _, run := range list {
		// Runs end between runes: all of a rune's bytes have the style of its first one.
		for end := b.at + run.Len; b.at < end; {
			r, size := runes.First(text[b.at:])
			b.take(r, size, run.Style)
		}
	}
	if text[len(text)-1] != lineEnd {
		b.end(0)
	}
	return b.list, api.OK
}

// builder is a paragraph's items under way.
type builder struct {
	table *metrics.Table
	list  []api.Item
	at    int // where the bytes of the next item begin
	style int // of the last rune of the last Box
}

// add puts an item behind the others, with the next bytes, so many.
func (b *builder) add(x api.Item, size int) {
	x.From, x.To = b.at, b.at+size
	b.list = append(b.list, x)
	b.at = x.To
}

// take makes of the next rune what it is to a line.
func (b *builder) take(r rune, size, style int) {
	switch runes.Kind(r) {
	case runes.Space:
		width, stretch, shrink := b.table.Space(style)
		b.add(api.Item{Kind: api.Glue, Width: width, Stretch: stretch, Shrink: shrink}, size)
	case runes.Soft:
		b.add(api.Item{Kind: api.Penalty, Width: b.table.Hyphen(style), Cost: HyphenCost, Flag: true}, size)
	case runes.Gap:
		b.add(api.Item{Kind: api.Penalty}, size)
	case runes.Joiner:
		b.add(api.Item{Kind: api.Penalty, Cost: Never}, size)
	case runes.NewLine, runes.NewPara:
		b.end(size)
	case runes.Hyphen:
		b.box(b.table.Width(style, r), size, style)
		// The hyphen is there already: a line that ends behind it gets no wider.
		b.add(api.Item{Kind: api.Penalty, Cost: HyphenCost, Flag: true}, 0)
	default:
		b.box(b.table.Width(style, r), size, style)
	}
}

// box puts a rune into the Box ahead, if that is of the same style, else into one of its own.
func (b *builder) box(width, size, style int) {
	last := len(b.list) - 1
	if last >= 0 && b.list[last].Kind == api.Box && b.style == style {
		b.at += size
		b.list[last].Width = scaled.Add(b.list[last].Width, width)
		b.list[last].To = b.at
		return
	}
	b.add(api.Item{Kind: api.Box, Width: width}, size)
	b.style = style
}

// end has a line end, with the next bytes, so many: what it lacks in width is filled.
func (b *builder) end(size int) {
	b.add(api.Item{Kind: api.Glue, Fill: true}, 0)
	b.add(api.Item{Kind: api.Penalty, Cost: Always}, size)
}

package metrics

import (
	"reglet/api"
)

// lastRune is the greatest rune.
const lastRune = 0x10FFFF

// fault: the first fault of a style, its measures ahead of its ranges; OK, if it has none.
func fault(s api.Style) api.Errno {
	switch {
	case s.Height == 0 || !unit(s.Height), !unit(s.Space), !unit(s.Stretch), !unit(s.Shrink), !unit(s.Hyphen), !unit(s.Other):
		return api.ErrWidth
	case s.Shrink > s.Space:
		return api.ErrWidth
	case len(s.Ranges) > api.MaxRanges:
		return api.ErrRanges
	}
	return rangesFault(s.Ranges)
}

// rangesFault: the first fault of ranges, one after the other: where it lies ahead of how wide its runes are.
func rangesFault(list []api.Range) api.Errno {
	ahead := -1 // the first one may begin at 0
	for _, r := range list {
		if r.Lo <= ahead || r.Hi < r.Lo || r.Hi > lastRune {
			return api.ErrRanges
		}
		if !unit(r.Width) {
			return api.ErrWidth
		}
		ahead = r.Hi
	}
	return api.OK
}

// unit: may a style have that measure?
func unit(n int) bool { return n >= 0 && n <= api.MaxUnit }

package pages

import (
	"reglet/api"
	"reglet/measure"
)

// Right: may these be a document's lines?
func Right(list []api.Slot) api.Errno {
	for len(list) > 0 {
		n := list[0].Count
		if n < 1 || n > len(list) || !isParagraph(list[:n]) {
			return api.ErrRange
		}
		list = list[n:]
	}
	return api.OK
}

// isParagraph: are these all lines of one paragraph?
func isParagraph(list []api.Slot) bool {
	for k, s := range list {
		want := api.Slot{Height: s.Height, Index: k, Count: len(list), Keep: list[0].Keep}
		if s != want || s.Height < 1 || s.Height > api.MaxUnit {
			return false
		}
	}
	return true
}

// May: may a page end behind a line?
func May(s api.Slot, set api.Settings) bool {
	if s.Index < s.Count && s.Index+1 == s.Count {
		return !s.Keep
	}
	// Index + 1 lines are up to it, and Count - Index - 1 behind it.
	tooFewUpTo := exceeds(set.Orphans, s.Index, 1)
	enoughBehind := exceeds(s.Count, s.Index, set.Widows)
	return !tooFewUpTo && enoughBehind
}

// exceeds: is a - b above n? Numbers that no slot should have may be too far apart for an int: then it is told by which is the greater one.
func exceeds(a, b, n int) bool {
	apart := a - b
	wrapped := (apart < 0) != (a < b)
	if wrapped {
		return a > b
	}
	return apart > n
}

// mayEndAt: may a page end behind a line of these? Behind the last one, whatever its paragraph asks for: there is nothing to stay with.
func mayEndAt(list []api.Slot, line int, set api.Settings) bool {
	return line == len(list)-1 || May(list[line], set)
}

// Check: may a page be so high, and settings be?
func Check(height int, set api.Settings) api.Errno {
	if height < 1 || height > api.MaxMeasure {
		return api.ErrWidth
	}
	return measure.Check(set)
}

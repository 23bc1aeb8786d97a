package hyphen

import (
	"reglet/api"
	"reglet/runes"
)

const (
	point  = '.' // in a pattern: the word begins here, or ends
	hyphen = '-' // in a word of which it is known
)

// fits: is a text right, and no longer than a pattern or a word may be?
func fits(s string) bool {
	return len(s) <= api.MaxPattern && runes.Check(s) == api.OK
}

// readPattern: a pattern's letters and points, and its level ahead of each of them and behind the last one; false: it is none.
func readPattern(s string) ([]rune, []byte, bool) {
	if !fits(s) {
		return nil, nil, false
	}
	var signs []rune
	levels := []byte{0}
	letters, behindDigit := 0, false
	for at, r := range s {
		switch {
		case isDigit(r) && !behindDigit:
			levels[len(signs)] = byte(r - '0')
			behindDigit = true
			continue
		case r == point && (at == 0 || at == len(s)-1):
		case Letter(r) && Lower(r) == r:
			letters++
		default:
			return nil, nil, false
		}
		signs, levels = append(signs, r), append(levels, 0)
		behindDigit = false
	}
	return signs, levels, letters > 0
}

func isDigit(r rune) bool { return r >= '0' && r <= '9' }

// readWord: a word's letters, by Lower, and how many of them are ahead of each of its hyphens; false: it isn't letters with single hyphens between them.
func readWord(s string) ([]rune, []int, bool) {
	if !fits(s) {
		return nil, nil, false
	}
	var letters []rune
	var hyphens []int
	behindLetter := false
	for _, r := range s {
		switch {
		case Letter(r):
			letters = append(letters, Lower(r))
			behindLetter = true
		case r == hyphen && behindLetter:
			hyphens = append(hyphens, len(letters))
			behindLetter = false
		default:
			return nil, nil, false
		}
	}
	return letters, hyphens, behindLetter
}

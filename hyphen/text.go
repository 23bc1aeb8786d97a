package hyphen

import (
	"strings"

	"reglet/api"
	"reglet/runes"
)

// Soft is the rune that stands for a hyphen that may come.
const Soft = 0xad

// Words: where the words of a text begin and end.
func Words(s string) [][2]int {
	var words [][2]int
	within := false
	for at, r := range s {
		is := Letter(r)
		if is && !within {
			words = append(words, [2]int{at, len(s)}) // to the end, if nothing else comes
		}
		if within && !is {
			words[len(words)-1][1] = at
		}
		within = is
	}
	return words
}

// Places: the bytes of a text ahead of which a hyphen may come.
func (b *Book) Places(s string) []int {
	if runes.Check(s) != api.OK {
		return nil
	}
	var places []int
	for _, w := range Words(s) {
		word := s[w[0]:w[1]]
		for _, n := range b.Points(word) {
			at, _ := runes.At(word, n)
			places = append(places, w[0]+at)
		}
	}
	return places
}

// Put: a text with a soft hyphen at each of its places.
func (b *Book) Put(s string) string {
	var out strings.Builder
	from := 0
	for _, at := range b.Places(s) {
		out.WriteString(s[from:at])
		out.WriteRune(Soft)
		from = at
	}
	out.WriteString(s[from:])
	return out.String()
}

// Strip: a text without soft hyphens.
func Strip(s string) string {
	var out strings.Builder
	for _, part := range strings.Split(s, string(rune(Soft))) {
		out.WriteString(part)
	}
	return out.String()
}

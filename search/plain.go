package search

import "strings"

// signs are the bytes that don't stand for themselves in a pattern.
const signs = `.*+?|()[]{}\`

// Quote: a pattern that takes just a text.
func Quote(s string) string {
	var out strings.Builder
	for k := range len(s) {
		if strings.IndexByte(signs, s[k]) >= 0 {
			out.WriteByte(stroke)
		}
		out.WriteByte(s[k])
	}
	return out.String()
}

// Plain: the places of a text in another one, from the left, none over another one, by going along it once.
func Plain(s, word string) []int {
	if word == "" || len(word) > len(s) {
		return nil
	}
	var places []int
	back := borders(word)
	stands := 0 // so many bytes of word end here
	for at := range len(s) {
		stands = extend(word, back, stands, s[at])
		if stands == len(word) {
			places = append(places, at+1-stands)
			stands = 0
		}
	}
	return places
}

// borders: of each beginning of a word how many bytes at most, but not all, both begin and end it.
func borders(word string) []int {
	back := make([]int, len(word))
	for k := 1; k < len(word); k++ {
		back[k] = extend(word, back, back[k-1], word[k])
	}
	return back
}

// extend: how many of a word's bytes stand where so many stood, with one more byte behind them.
func extend(word string, back []int, stood int, c byte) int {
	for stood > 0 && word[stood] != c {
		stood = back[stood-1]
	}
	if word[stood] == c {
		stood++
	}
	return stood
}

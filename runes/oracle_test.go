package runes_test

import (
	"slices"
)

// writing: a rune's bytes by the chapter's opening, its number taken apart by division.
func writing(n int) []byte {
	six := func(by int) byte { return byte(0x80 + n/by%64) }
	switch {
	case n < 0x80:
		return []byte{byte(n)}
	case n < 0x800:
		return []byte{byte(0xC0 + n/64), six(1)}
	case n < 0x10000:
		return []byte{byte(0xE0 + n/4096), six(64), six(1)}
	}
	return []byte{byte(0xF0 + n/262144), six(4096), six(64), six(1)}
}

// isRune is the chapter's first sentence.
func isRune(n int) bool {
	return n >= 0 && n < 0xD800 || n > 0xDFFF && n <= 0x10FFFF
}

// someRunes: the first and the last of each number of bytes, both neighbours of what is none, a line's and a paragraph's end, and ordinary ones.
func someRunes() []int {
	return []int{0, 0xA, 0x41, 0x7F, 0x80, 0xE9, 0x7FF, 0x800, 0x2028, 0x20AC, 0xD7FF, 0xE000, 0xFFFD, 0xFFFF, 0x10000, 0x1F600, 0x10FFFF}
}

// noRunes: numbers that are none.
func noRunes() []rune {
	return []rune{-1, -2, -128, -0x80000000, 0xD800, 0xD801, 0xDABC, 0xDFFE, 0xDFFF, 0x110000, 0x110001, 0x1FFFFF, 0x200000, 0x7FFFFFFF}
}

// someBytes: the edges of all that a rune's bytes may be.
func someBytes() []byte {
	return []byte{0, 0xA, 0x41, 0x7F, 0x80, 0x8F, 0x90, 0x9F, 0xA0, 0xBF, 0xC0, 0xC1, 0xC2, 0xDF, 0xE0, 0xE1, 0xED, 0xEF, 0xF0, 0xF4, 0xF5, 0xF7, 0xF8, 0xFF}
}

// right is a text of runes, and what is true of it by the way it was made.
type right struct {
	text  string
	runes []int
	edges []int // the places between runes, from 0 to its length
}

func made(list ...int) right {
	text, edges := []byte{}, []int{0}
	for _, n := range list {
		text = append(text, writing(n)...)
		edges = append(edges, len(text))
	}
	return right{string(text), list, edges}
}

// rightTexts: the empty text, all texts of up to three of the runes, and longer ones.
func rightTexts() []right {
	list := []right{made()}
	for _, a := range someRunes() {
		list = append(list, made(a))
		for _, b := range someRunes() {
			list = append(list, made(a, b))
			for _, c := range someRunes() {
				list = append(list, made(a, b, c))
			}
		}
	}
	all := someRunes()
	back := slices.Clone(all)
	slices.Reverse(back)
	return append(list, made(all...), made(back...), made(slices.Concat(all, back, all)...))
}

// rawTexts calls see with every text of up to four of the bytes.
func rawTexts(see func(s string)) {
	see("")
	for _, a := range someBytes() {
		see(string([]byte{a}))
		for _, b := range someBytes() {
			see(string([]byte{a, b}))
			for _, c := range someBytes() {
				see(string([]byte{a, b, c}))
				for _, d := range someBytes() {
					see(string([]byte{a, b, c, d}))
				}
			}
		}
	}
}

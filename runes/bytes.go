package runes

// read: the rune with which a text begins, and how many bytes it has; 0 and 0: there is none.
func read(s string) (rune, int) {
	var r, least rune // least: the first rune that needs so many bytes
	at, size := 1, 1
	if s == "" {
		goto none
	}
	switch c := s[0]; {
	case c < 0x80:
		r = rune(c)
	case c < 0xC0:
		goto none
	case c < 0xE0:
		r, least, size = rune(c&0x1F), 0x80, 2
	case c < 0xF0:
		r, least, size = rune(c&0xF), 0x800, 3
	case c < 0xF8:
		r, least, size = rune(c&0x7), 0x10000, 4
	default:
		goto none
	}
next:
	if at == size {
		goto whole
	}
	if at == len(s) || !Inside(s[at]) {
		goto none
	}
	r = r<<6 | rune(s[at]&0x3F)
	at++
	goto next
whole:
	// What fewer bytes write is wrong here: each rune has but one writing.
	if r >= least && exists(r) {
		return r, size
	}
none:
	return 0, 0
}

// exists: is a number a rune?
func exists(r rune) bool {
	return r >= 0 && r <= 0x10FFFF && (r < 0xD800 || r > 0xDFFF)
}

// Append: a rune's bytes behind others; none of a number that is no rune.
func Append(b []byte, r rune) []byte {
	// Not appended to b itself: its spare room may be somebody's.
	out := make([]byte, len(b), len(b)+4)
	copy(out, b)
	switch {
	case !exists(r):
		return out
	case r < 0x80:
		return append(out, byte(r))
	case r < 0x800:
		return append(out, 0xC0|byte(r>>6), low(r))
	case r < 0x10000:
		return append(out, 0xE0|byte(r>>12), low(r>>6), low(r))
	}
	return append(out, 0xF0|byte(r>>18), low(r>>12), low(r>>6), low(r))
}

// low: the byte that writes a rune's lowest six bits.
func low(r rune) byte { return 0x80 | byte(r&0x3F) }

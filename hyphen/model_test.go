package hyphen_test

import (
	"math/rand/v2"
	"regexp"
	"slices"
	"strings"
	"testing"
	"unicode/utf8"

	"reglet/api"
	"reglet/hyphen"
)

const (
	minInt = -1 << 63
	maxInt = 1<<63 - 1
)

// isLetter is the chapter's first sentence, with layer 2's kinds written out.
func isLetter(n int) bool {
	switch {
	case n < 0 || n > 0x10FFFF || n >= 0xD800 && n <= 0xDFFF: // no rune
		return false
	case n >= 0x61 && n <= 0x7A || n >= 0x41 && n <= 0x5A:
		return true
	case n < 0xC0 || n == 0xD7 || n == 0xF7:
		return false
	}
	return !slices.Contains([]int{0x200B, 0x2010, 0x2028, 0x202F, 0x2060, 0xFEFF}, n)
}

// lowered: a text by Lower, by the library.
func lowered(s string) string {
	return strings.Map(func(r rune) rune {
		if r < 0x80 {
			return []rune(strings.ToLower(string(r)))[0]
		}
		return r
	}, s)
}

// shape: a sign for each rune: a small letter, a great one, a digit, a point, a hyphen, anything else.
func shape(s string) string {
	var out strings.Builder
	for _, r := range s {
		switch {
		case isLetter(int(r)) && lowered(string(r)) == string(r):
			out.WriteByte('l')
		case isLetter(int(r)):
			out.WriteByte('G')
		case r >= '0' && r <= '9':
			out.WriteByte('d')
		case r == '.' || r == '-':
			out.WriteByte(byte(r))
		default:
			out.WriteByte('x')
		}
	}
	return out.String()
}

var (
	patternShape = regexp.MustCompile(`^\.?(d?l)+d?\.?$`)
	wordShape    = regexp.MustCompile(`^[lG]+(-[lG]+)*$`)
	pureShape    = regexp.MustCompile(`^[lG]+$`)
)

func isShaped(s string, as *regexp.Regexp) bool {
	return len(s) <= 256 && utf8.ValidString(s) && as.MatchString(shape(s))
}

// fault: what New is to answer, by P17.1's sentences.
func fault(patterns, words []string, left, right int) (api.Errno, int) {
	if left < 1 || left > 100 || right < 1 || right > 100 {
		return api.ErrRange, 0
	}
	if len(patterns) > 8192 || len(words) > 8192 {
		return api.ErrLong, 0
	}
	for n, s := range patterns {
		if !isShaped(s, patternShape) {
			return api.ErrPattern, n
		}
	}
	for n, s := range words {
		if !isShaped(s, wordShape) {
			return api.ErrExcept, len(patterns) + n
		}
	}
	return api.OK, 0
}

// plain is what New was given and what of it counts, gone through anew for each place of each word.
type plain struct {
	patterns, words []string
	left, right     int
}

func plainOf(patterns, words []string, left, right int) plain {
	return plain{counted(patterns, digits), counted(words, "-"), left, right}
}

// without: a text without some signs.
func without(s, signs string) string {
	return strings.Map(func(r rune) rune {
		if strings.ContainsRune(signs, r) {
			return -1
		}
		return r
	}, s)
}

// counted: of several alike but for some signs, and for great letters, the last one.
func counted(list []string, signs string) []string {
	var out []string
	taken := map[string]bool{}
	for _, s := range slices.Backward(list) {
		if alike := lowered(without(s, signs)); !taken[alike] {
			taken[alike] = true
			out = append(out, s)
		}
	}
	return out
}

const digits = "0123456789"

// level: the greatest one at the place ahead of a letter of a word.
func (p plain) level(word []rune, n int) int {
	row := []rune("." + lowered(string(word)) + ".")
	best := 0
	for _, s := range p.patterns {
		signs := []rune(without(s, digits))
		for from := 0; from+len(signs) <= len(row); from++ {
			if slices.Equal(row[from:from+len(signs)], signs) {
				best = max(best, digitAt(s, n+1-from))
			}
		}
	}
	return best
}

// digitAt: of a pattern the digit ahead of its letter or point number k (behind the last one, if k is how many there are); 0: there is none.
func digitAt(s string, k int) int {
	seen := 0
	for _, r := range s {
		if !strings.ContainsRune(digits, r) {
			seen++
		} else if seen == k {
			return int(r - '0')
		}
	}
	return 0
}

// points is P17.2, sentence by sentence.
func (p plain) points(s string) []int {
	if !isShaped(s, pureShape) {
		return nil
	}
	word := []rune(s)
	known := slices.IndexFunc(p.words, func(w string) bool { return lowered(without(w, "-")) == lowered(s) })
	var list []int
	for n := p.left; n <= len(word)-p.right; n++ {
		may := false
		if known >= 0 {
			may = hasHyphen(p.words[known], n)
		} else {
			may = p.level(word, n)%2 == 1
		}
		if may {
			list = append(list, n)
		}
	}
	return list
}

// hasHyphen: has a word a hyphen with so many letters ahead?
func hasHyphen(w string, n int) bool {
	parts := strings.Split(w, "-")
	for k := 1; k < len(parts); k++ {
		if utf8.RuneCountInString(strings.Join(parts[:k], "")) == n {
			return true
		}
	}
	return false
}

// wordsOf: of all parts of a right text those that are words and can't be made longer.
func wordsOf(s string) [][2]int {
	places := []int{}
	for at := range s {
		places = append(places, at)
	}
	places = append(places, len(s))
	is := func(k int) bool { // is the rune number k there, and a letter?
		return k >= 0 && k < len(places)-1 && pureShape.MatchString(shape(s[places[k]:places[k+1]]))
	}
	var list [][2]int
	for from := range places {
		for to := from + 1; to < len(places) && is(to-1); to++ {
			if !is(from-1) && !is(to) {
				list = append(list, [2]int{places[from], places[to]})
			}
		}
	}
	return list
}

func (p plain) places(s string) []int {
	if !utf8.ValidString(s) {
		return nil
	}
	var list []int
	for _, w := range wordsOf(s) {
		word := s[w[0]:w[1]]
		for _, n := range p.points(word) {
			list = append(list, w[0]+len(string([]rune(word)[:n])))
		}
	}
	return list
}

// put lays a soft hyphen in from the last place to the first, so that those ahead stay.
func (p plain) put(s string) string {
	for _, at := range slices.Backward(p.places(s)) {
		s = s[:at] + "\u00ad" + s[at:]
	}
	return s
}

// both is a book and the plain one.
type both struct {
	book  *hyphen.Book
	plain plain
}

// made: a book of what may be.
func made(t testing.TB, patterns, words []string, left, right int) both {
	t.Helper()
	b, e, at := hyphen.New(patterns, words, left, right)
	if b == nil || e != api.OK || at != 0 {
		t.Fatalf("New(%.200q, %.200q, %d, %d): %v, %d, %d", patterns, words, left, right, b, e, at)
	}
	if b.Size() < 1 {
		t.Fatalf("Size of %.200q: %d", patterns, b.Size())
	}
	return both{b, plainOf(patterns, words, left, right)}
}

// wantPoints holds Points against numbers that are written out, and against the plain ones.
func (x both) wantPoints(t testing.TB, s string, want ...int) {
	t.Helper()
	if got := x.book.Points(s); !slices.Equal(got, want) {
		t.Errorf("Points(%q) = %d, not %d; left %d, right %d, patterns %.200q, words %.200q", s, got, want, x.plain.left, x.plain.right, x.plain.patterns, x.plain.words)
	}
	if got := x.plain.points(s); !slices.Equal(got, want) {
		t.Errorf("by the plain way Points(%q) = %d, not %d", s, got, want)
	}
}

// agree holds all that a book tells of a text against the plain one.
func (x both) agree(t testing.TB, s string) {
	t.Helper()
	p := x.plain
	if got, want := x.book.Points(s), p.points(s); !slices.Equal(got, want) {
		t.Fatalf("Points(%q) = %d, not %d, by %q, %q, %d, %d", s, got, want, p.patterns, p.words, p.left, p.right)
	}
	if got, want := x.book.Places(s), p.places(s); !slices.Equal(got, want) {
		t.Fatalf("Places(%q) = %d, not %d, by %q, %q, %d, %d", s, got, want, p.patterns, p.words, p.left, p.right)
	}
	put := x.book.Put(s)
	if want := p.put(s); put != want {
		t.Fatalf("Put(%q) = %q, not %q, by %q, %q, %d, %d", s, put, want, p.patterns, p.words, p.left, p.right)
	}
	if !utf8.ValidString(s) {
		return
	}
	if got, want := hyphen.Words(s), wordsOf(s); !slices.Equal(got, want) {
		t.Fatalf("Words(%q) = %d, not %d", s, got, want)
	}
	if got, want := hyphen.Strip(put), without(s, "\u00ad"); got != want {
		t.Fatalf("Strip(%q) = %q, not %q", put, got, want)
	}
}

// pick: one of several.
func pick[T any](r *rand.Rand, list ...T) T { return list[r.IntN(len(list))] }

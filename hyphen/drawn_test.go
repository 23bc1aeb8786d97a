package hyphen_test

import (
	"math/rand/v2"
	"strings"
	"testing"
	"unicode"
	"unicode/utf8"

	"reglet/api"
)

// drawnLetters: of few kinds, so that they often stand in one another.
func drawnLetters(r *rand.Rand, most int, kinds ...string) []string {
	list := make([]string, 1+r.IntN(most))
	for k := range list {
		list[k] = pick(r, kinds...)
	}
	return list
}

// drawnPattern: one that may be.
func drawnPattern(r *rand.Rand) string {
	digit := func() string {
		if r.IntN(2) == 0 {
			return ""
		}
		return string(digits[r.IntN(10)])
	}
	s := digit() + strings.Join(drawnLetters(r, 3, "a", "b", "\u00e9"), "|") + digit()
	for strings.Contains(s, "|") {
		s = strings.Replace(s, "|", digit(), 1)
	}
	if r.IntN(6) == 0 {
		s = "." + s
	}
	if r.IntN(6) == 0 {
		s += "."
	}
	return s
}

// drawnWord: one that may be, now and then a greater one.
func drawnWord(r *rand.Rand) string {
	s := strings.Join(drawnLetters(r, 5, "a", "b", "A", "B", "\u00e9"), "|")
	for strings.Contains(s, "|") {
		s = strings.Replace(s, "|", pick(r, "", "-"), 1)
	}
	return s
}

// drawnList: so many at most.
func drawnList(r *rand.Rand, most int, one func(*rand.Rand) string) []string {
	list := make([]string, r.IntN(most+1))
	for k := range list {
		list[k] = one(r)
	}
	return list
}

// drawnText: words, signs between them, soft hyphens; seldom bytes that aren't right.
func drawnText(r *rand.Rand) string {
	var out strings.Builder
	for range r.IntN(6) {
		out.WriteString(strings.Join(drawnLetters(r, 7, "a", "b", "A", "B", "\u00e9", "a", "b"), ""))
		out.WriteString(pick(r, "", " ", " ", "-", ". ", "\u00ad", "\u00d7", "1", "\n", "\u2010", "\u4e2d", "\ufffd", "\U0001f600"))
	}
	if r.IntN(20) == 0 {
		out.WriteString(pick(r, "\xff", "\xc3", "\x80a", "\xed\xa0\x80", "\xc0\x80"))
	}
	return out.String()
}

// seen counts what the drawn texts came to, so that no kind is left out.
type seen struct {
	known, byPattern, outweighed, severalWords, wrong, none int
}

// count looks at a text's words: whether they are known, and where an odd level is outweighed by an even one.
func (s *seen) count(p plain, text string) {
	if !utf8.ValidString(text) {
		s.wrong++
		return
	}
	list := wordsOf(text)
	if len(list) > 1 {
		s.severalWords++
	}
	if len(p.places(text)) == 0 {
		s.none++
	}
	for _, w := range list {
		s.countWord(p, text[w[0]:w[1]])
	}
}

func (s *seen) countWord(p plain, word string) {
	if len(p.points(word)) == 0 {
		return
	}
	unknown := plain{p.patterns, nil, p.left, p.right}
	if p.knows(word) {
		s.known++
		return
	}
	s.byPattern++
	for _, one := range p.patterns {
		if len((plain{[]string{one}, nil, p.left, p.right}).points(word)) > len(unknown.points(word)) {
			s.outweighed++
			return
		}
	}
}

// knows: is a word one of the words?
func (p plain) knows(s string) bool {
	for _, w := range p.words {
		if lowered(without(w, "-")) == lowered(s) {
			return true
		}
	}
	return false
}

// asciiUpper: of the 26 small letters the great one.
func asciiUpper(r rune) rune {
	if r < 0x80 {
		return unicode.ToUpper(r)
	}
	return r
}

// P17.2 to P17.4: drawn books and texts, against the chapter's own way.
func TestDrawn(t *testing.T) {
	r := rand.New(rand.NewPCG(17, 1))
	var s seen
	for range 2500 {
		x := made(t, drawnList(r, 8, drawnPattern), drawnList(r, 5, drawnWord), 1+r.IntN(3), 1+r.IntN(3))
		for range 8 {
			text := drawnText(r)
			x.agree(t, text)
			s.count(x.plain, text)
			word := without(drawnWord(r), "-")
			if len(x.plain.words) > 0 && r.IntN(2) == 0 {
				word = strings.Map(pick(r, unicode.ToLower, asciiUpper), without(pick(r, x.plain.words...), "-"))
			}
			x.agree(t, word)
			s.countWord(x.plain, word)
		}
	}
	if min(s.known, s.byPattern, s.outweighed, s.severalWords, s.wrong, s.none) < 300 {
		t.Errorf("too few of a kind: %+v", s)
	}
}

// P17.2: many patterns at once, and long words.
func TestDrawnLong(t *testing.T) {
	r := rand.New(rand.NewPCG(17, 2))
	for range 12 {
		x := made(t, drawnList(r, 400, drawnPattern), drawnList(r, 200, drawnWord), 1+r.IntN(4), 1+r.IntN(4))
		for range 10 {
			x.agree(t, strings.Join(drawnLetters(r, 150, "a", "b", "A", "\u00e9", "c"), ""))
			x.agree(t, drawnText(r))
		}
	}
}

// drawnAny: mostly what may be, else signs at hazard.
func drawnAny(one func(*rand.Rand) string) func(*rand.Rand) string {
	return func(r *rand.Rand) string {
		if r.IntN(8) > 0 {
			return one(r)
		}
		return strings.Join(drawnLetters(r, 5, signs()...), "")
	}
}

// P17.1: drawn patterns and words that may be or not: New's answer, by the chapter's words.
func TestDrawnNew(t *testing.T) {
	r := rand.New(rand.NewPCG(17, 3))
	taken := map[api.Errno]int{}
	for range 20000 {
		patterns, words := drawnList(r, 4, drawnAny(drawnPattern)), drawnList(r, 4, drawnAny(drawnWord))
		left, right := 1, 1
		if r.IntN(10) == 0 {
			left, right = pick(r, -1, 0, 1, 2, 100, 101), pick(r, -1, 0, 1, 2, 100, 101)
		}
		e, at := fault(patterns, words, left, right)
		wantNew(t, patterns, words, left, right, e, at)
		taken[e]++
	}
	if len(taken) != 4 || min(taken[api.OK], taken[api.ErrRange], taken[api.ErrPattern], taken[api.ErrExcept]) < 500 {
		t.Errorf("too few of a kind: %v", taken)
	}
}

// eachPattern calls see with every one of up to two letters of two kinds, with no digit, 1 or 2 at each place.
func eachPattern(see func(s string)) {
	levels := []string{"", "1", "2"}
	for _, front := range []string{"", "."} {
		for _, end := range []string{"", "."} {
			for _, a := range levels {
				for _, b := range levels {
					for _, one := range []string{"a", "b"} {
						see(front + a + one + b + end)
						for _, c := range levels {
							for _, two := range []string{"a", "b"} {
								see(front + a + one + b + two + c + end)
							}
						}
					}
				}
			}
		}
	}
}

// P17.2: every short pattern alone, and beside others, in every short word.
func TestEachPattern(t *testing.T) {
	var words []string
	for n := 1; n <= 4; n++ {
		for k := range 1 << n {
			word := ""
			for bit := range n {
				word += string("aB"[k>>bit&1])
			}
			words = append(words, word)
		}
	}
	several := 0
	eachPattern(func(s string) {
		for _, others := range [][]string{nil, {"b3a"}, {".a1", "1b."}} {
			x := made(t, append([]string{s}, others...), nil, 1, 1)
			for _, word := range words {
				x.agree(t, word)
				if len(x.book.Points(word)) > 1 {
					several++
				}
			}
		}
	})
	if several < 1000 {
		t.Errorf("two hyphens came %d times", several)
	}
}

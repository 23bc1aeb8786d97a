package search_test

import (
	"math/rand/v2"
	"regexp"
	"slices"
	"strings"
	"testing"

	"reglet/api"
	"reglet/search"
)

// drawnClass: mostly with spans that rise.
func drawnClass(r *rand.Rand) string {
	s := pick(r, "[", "[", "[^")
	s += pick(r, "", "", "", "]", "-")
	for range 1 + r.IntN(2) {
		s += pick(r, "a", "b", "c", "a-b", "b-d", "\u00e9", "a-\u00e9", `\n`, `\t`, `\]`, `\\`, `\--a`, "[", "c^", ".")
	}
	return s + pick(r, "", "", "", "-") + "]"
}

func drawnAtom(r *rand.Rand, deep int) string {
	switch r.IntN(12) {
	case 0:
		return "."
	case 1, 2:
		return drawnClass(r)
	case 3:
		return pick(r, `\n`, `\.`, `\*`, `\\`, "\\\u00e9", "\n", "-", "^")
	case 4, 5, 6:
		if deep > 0 {
			return "(" + drawnPattern(r, deep-1) + ")"
		}
		return "()"
	}
	return pick(r, "a", "a", "a", "b", "b", "\u00e9", "c")
}

// drawnPattern: one without faults.
func drawnPattern(r *rand.Rand, deep int) string {
	var rows []string
	for range pick(r, 1, 1, 1, 2, 2, 3) {
		row := ""
		for range pick(r, 0, 1, 1, 2, 2, 3) {
			row += drawnAtom(r, deep) + pick(r, "", "", "", "", "*", "+", "?", "*+", "??")
		}
		rows = append(rows, row)
	}
	return strings.Join(rows, "|")
}

// drawnText: of runes that the drawn patterns have.
func drawnText(r *rand.Rand, most int) string {
	var out strings.Builder
	for range r.IntN(most + 1) {
		out.WriteString(pick(r, "a", "a", "a", "b", "b", "c", "\u00e9", "\n", "-", "]", ".", "\\", "\U0001f600"))
	}
	return out.String()
}

// seen counts what the drawn patterns and texts came to, so that no kind is left out.
type seen struct {
	none, nothing, all, several, mixed, longer int
}

// count looks at a text: whether the pattern takes none of it, nothing alone, all; at several places, with and without bytes; and more than is taken first.
func (s *seen) count(x both, text string) {
	list := x.plain.all(text)
	empty := 0
	for _, w := range list {
		if w[0] == w[1] {
			empty++
		}
	}
	ends := x.plain.from(text, places{0: true})
	switch {
	case len(list) == 0:
		s.none++
	case empty == len(list):
		s.nothing++
	case len(list) == 1 && list[0] == [2]int{0, len(text)}:
		s.all++
	case empty > 0:
		s.mixed++
	case len(list) > 2:
		s.several++
	}
	if len(ends) > 2 {
		s.longer++
	}
}

// P18.1 to P18.3: drawn patterns and texts, against the chapter's own way.
func TestDrawn(t *testing.T) {
	r := rand.New(rand.NewPCG(18, 1))
	var s seen
	for range 5000 {
		x := made(t, drawnPattern(r, 3))
		for range 5 {
			text := drawnText(r, 9)
			x.agree(t, text)
			s.count(x, text)
		}
	}
	if min(s.none, s.nothing, s.all, s.several, s.mixed, s.longer) < 300 {
		t.Errorf("too few of a kind: %+v", s)
	}
}

// P18.2, P18.3: longer patterns and texts, against what the library's regular expressions take first, and of that the most.
func TestDrawnLibrary(t *testing.T) {
	r := rand.New(rand.NewPCG(18, 2))
	found, long := 0, 0
	for range 1500 {
		s := drawnPattern(r, 5)
		if e, _ := fault(s); e != api.OK {
			continue // too long, or of too many states
		}
		x := made(t, s)
		anywhere := regexp.MustCompile(x.plain.library())
		there := regexp.MustCompile("^(?:" + x.plain.library() + ")")
		anywhere.Longest()
		there.Longest()
		for range 3 {
			text := drawnText(r, 200)
			want := -1
			if at := there.FindStringIndex(text); at != nil {
				want = at[1]
			}
			if got := x.pattern.Longest(text); got != want {
				t.Fatalf("Longest(%q) of %q: %d, not %d", text, s, got, want)
			}
			list := libraryAll(anywhere, text)
			if got := collected(x.pattern, text, -1); !slices.Equal(got, list) {
				t.Fatalf("All(%q) of %q: %d, not %d", text, s, got, list)
			}
			for _, from := range between(text) {
				a, b, ok := x.pattern.Find(text, from)
				at := anywhere.FindStringIndex(text[from:])
				if ok != (at != nil) || ok && (a != from+at[0] || b != from+at[1]) {
					t.Fatalf("Find(%q, %d) of %q: %d, %d, %v, not %d behind %d", text, from, s, a, b, ok, at, from)
				}
				if ok && b-a > 20 {
					long++
				}
			}
			found += len(list)
		}
	}
	if found < 10000 || long < 2000 {
		t.Errorf("found %d, long ones %d", found, long)
	}
}

// libraryAll: as P18.3 has it, by the library.
func libraryAll(x *regexp.Regexp, s string) [][2]int {
	var list [][2]int
	places := between(s)
	for at := 0; at <= len(s); {
		found := x.FindStringIndex(s[at:])
		if found == nil {
			break
		}
		from, to := at+found[0], at+found[1]
		list = append(list, [2]int{from, to})
		at = to
		if from == to {
			k, _ := slices.BinarySearch(places, to)
			if k == len(places)-1 {
				break
			}
			at = places[k+1]
		}
	}
	return list
}

// P18.1: drawn texts that may be patterns or not, and patterns with a sign put in or taken out: New's answer, by the chapter's words.
func TestDrawnNew(t *testing.T) {
	r := rand.New(rand.NewPCG(18, 3))
	taken := map[api.Errno]int{}
	for range 60000 {
		s := ""
		if r.IntN(2) == 0 {
			for range r.IntN(12) {
				s += pick(r, signs()...)
			}
		} else {
			list := []rune(drawnPattern(r, 3))
			at := r.IntN(len(list) + 1)
			s = string(list[:at]) + pick(r, append(signs(), "", "++", "((((((((", "))", "[b-a]", "\xff")...) + string(list[min(len(list), at+r.IntN(2)):])
		}
		e, at := fault(s)
		wantNew(t, s, e, at)
		taken[e]++
	}
	if len(taken) < 3 || min(taken[api.OK], taken[api.ErrRegex], taken[api.ErrUTF8]) < 500 {
		t.Errorf("too few of a kind: %v", taken)
	}
}

// P18.1: States of drawn patterns with many signs, at MaxStates and beyond it.
func TestDrawnStates(t *testing.T) {
	r := rand.New(rand.NewPCG(18, 4))
	taken := map[api.Errno]int{}
	near := 0
	for k := range 4000 {
		s := "(" + drawnPattern(r, 1) + ")"
		for range 3 {
			s = "(" + s + strings.Repeat("+", r.IntN(5)) + pick(r, "", "|", "a", "*", "?", "b") + ")"
		}
		e, at := fault(s)
		wantNew(t, s, e, at)
		taken[e]++
		if e == api.OK {
			p := made(t, s)
			if p.pattern.States() > 2048 {
				near++
			}
			if k%16 == 0 { // the plain way takes long of so many signs
				p.agree(t, drawnText(r, 6))
			}
		}
	}
	if min(taken[api.OK], taken[api.ErrLong], near) < 100 {
		t.Errorf("too few of a kind: %v, near %d", taken, near)
	}
}

// P18.4, P18.5: Plain and Quote of drawn texts.
func TestDrawnPlain(t *testing.T) {
	r := rand.New(rand.NewPCG(18, 5))
	found := 0
	for range 20000 {
		s := drawnText(r, 60)
		word := drawnText(r, 4)
		if list := between(s); r.IntN(2) == 0 {
			from := r.IntN(len(list))
			word = s[list[from]:list[min(len(list)-1, from+r.IntN(12))]]
		}
		want := plainPlaces(s, word)
		if got := search.Plain(s, word); !slices.Equal(got, want) {
			t.Fatalf("Plain(%q, %q) = %d, not %d", s, word, got, want)
		}
		found += len(want)
		if q := search.Quote(s); q != mustQuote.ReplaceAllString(s, `\$0`) {
			t.Fatalf("Quote(%q) = %q", s, q)
		}
		p, e, _ := search.New(search.Quote(word))
		if e != api.OK || word != "" && !slices.Equal(plainOfAll(p, s), want) {
			t.Fatalf("All(%q) by Quote(%q): %d, not %d", s, word, plainOfAll(p, s), want)
		}
		wantQuoted(t, word, []string{s, word + s, s + word})
	}
	if found < 20000 {
		t.Errorf("found %d", found)
	}
}

// plainOfAll: where what All gives out begins.
func plainOfAll(p *search.Pattern, s string) []int {
	var list []int
	for from := range p.All(s) {
		list = append(list, from)
	}
	return list
}

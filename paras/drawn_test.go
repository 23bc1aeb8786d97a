package paras

import (
	"math/rand/v2"
	"reflect"
	"testing"

	"reglet/api"
)

// pair is an index and the text that it is of.
type pair struct {
	index *Index
	text  string
}

// drawnPlace: mostly a place of n bytes, now and then one beyond them.
func drawnPlace(r *rand.Rand, n int) int {
	switch r.IntN(24) {
	case 0:
		return -1 - r.IntN(3)
	case 1:
		return n + 1 + r.IntN(3)
	case 2:
		return []int{minInt, minInt + 1, maxInt - 1, maxInt}[r.IntN(4)]
	case 3, 4, 5:
		return n
	}
	return r.IntN(n + 1)
}

func drawnText(r *rand.Rand, most int) string {
	s := ""
	for range r.IntN(most + 1) {
		s += []string{"\n", "a", "b", "\xff"}[r.IntN(4)]
	}
	return s
}

// step does one drawn call on both of a pair, holds what they answer against each other, and the paragraphs beside the interval against those that there were.
func (p *pair) step(t *testing.T, r *rand.Rand) {
	t.Helper()
	from, to := drawnPlace(r, len(p.text)), drawnPlace(r, len(p.text))
	if from > to && r.IntN(16) > 0 {
		from, to = to, from
	}
	before := p.text
	var got, want api.Interval
	var err, wantErr api.Errno
	s := drawnText(r, 6)
	kind := r.IntN(3)
	switch kind {
	case 0:
		got, err = p.index.Insert(from, s)
		p.text, want, wantErr = insert(p.text, from, s)
	case 1:
		got, err = p.index.Delete(from, to)
		p.text, want, wantErr = remove(p.text, from, to)
	case 2:
		got, err = p.index.Over(from, to)
		want, wantErr = over(p.text, from, to)
	}
	if got != want || err != wantErr {
		t.Fatalf("call %d (from %d, to %d, s %q) on %q: %v, %d, want %v, %d", kind, from, to, s, before, got, err, want, wantErr)
	}
	if !untouched(before, p.text, got) {
		t.Fatalf("call %d (from %d, to %d, s %q) on %q: %v leaves others changed", kind, from, to, s, before, got)
	}
}

// Many calls in a row, of copies too, against New of the text that they leave: P6.1 to P6.6, and that what is refused changes nothing.
func TestDrawnCalls(t *testing.T) {
	r := rand.New(rand.NewPCG(6, 1))
	for range 500 {
		text := drawnText(r, 12)
		pairs := []*pair{{New(text), text}}
		for range 60 {
			p := pairs[r.IntN(len(pairs))]
			p.step(t, r)
			if len(pairs) < 4 && r.IntN(12) == 0 {
				pairs = append(pairs, &pair{p.index.Copy(), p.text})
			}
			for _, q := range pairs {
				agree(t, q.index, q.text)
				alike(t, q.index, New(q.text))
			}
		}
	}
}

// alike holds two indexes against each other, with what they keep.
func alike(t *testing.T, x, y *Index) {
	t.Helper()
	if !reflect.DeepEqual(x, y) {
		t.Fatalf("%v and %v", x, y)
	}
}

// All texts of up to five bytes that are line ends or not, with every part deleted and looked over, and every short text inserted at every place.
func TestAllShortTexts(t *testing.T) {
	var all []string
	for n := range 6 {
		for bits := range 1 << n {
			s := ""
			for i := range n {
				s += []string{"a", "\n"}[bits>>i&1]
			}
			all = append(all, s)
		}
	}
	for _, text := range all {
		agree(t, New(text), text)
		for from := -1; from <= len(text)+1; from++ {
			for to := -1; to <= len(text)+1; to++ {
				everyPart(t, text, from, to)
			}
			for _, s := range all[:15] {
				x := New(text)
				left, want, wantErr := insert(text, from, s)
				if i, err := x.Insert(from, s); i != want || err != wantErr {
					t.Fatalf("Insert(%d, %q) in %q: %v, %d, want %v, %d", from, s, text, i, err, want, wantErr)
				}
				agree(t, x, left)
			}
		}
	}
}

func everyPart(t *testing.T, text string, from, to int) {
	t.Helper()
	x := New(text)
	want, wantErr := over(text, from, to)
	if i, err := x.Over(from, to); i != want || err != wantErr {
		t.Fatalf("Over(%d, %d) of %q: %v, %d, want %v, %d", from, to, text, i, err, want, wantErr)
	}
	agree(t, x, text)
	left, want, wantErr := remove(text, from, to)
	if i, err := x.Delete(from, to); i != want || err != wantErr {
		t.Fatalf("Delete(%d, %d) of %q: %v, %d, want %v, %d", from, to, text, i, err, want, wantErr)
	}
	agree(t, x, left)
	if !untouched(text, left, want) {
		t.Fatalf("Delete(%d, %d) of %q: %v leaves others changed", from, to, text, want)
	}
}

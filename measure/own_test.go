package measure_test

import (
	"slices"
	"testing"

	"reglet/api"
	"reglet/measure"
)

// told: all that a Para tells, so that two of them can be held against each other.
func told(p *measure.Para) []any {
	all := []any{p.Items(), p.Ends()}
	for _, k := range p.Legal() {
		all = append(all, k)
	}
	for a := -1; a <= p.Items(); a++ {
		all = append(all, p.Item(a), p.End(a), p.Start(a))
		for b := -1; b <= p.Items(); b++ {
			low, high, fills := p.Bounds(a, b)
			all = append(all, p.Line(a, b), low, high, fills, p.Fit(a, b, 50))
		}
	}
	return all
}

// Rule 4: what is handed in isn't changed, with its spare room, nor is it kept.
func TestHandedIn(t *testing.T) {
	for _, list := range [][]api.Item{mixed(), {forced()}, {box(3)}, {box(3), fill()}} {
		room := append(slices.Clone(list), api.Item{Kind: 9, Cost: 77}, api.Item{Kind: 8, Width: -1})
		before := slices.Clone(room)
		p, e := measure.New(room[:len(list)])
		if !slices.Equal(room, before) {
			t.Errorf("the items became %v", room)
		}
		if e != api.OK {
			continue
		}
		want := told(p)
		for k := range room {
			room[k] = api.Item{Kind: api.Box, Width: 5}
		}
		if !slices.Equal(told(p), want) {
			t.Errorf("the Para of %v changed with the list", list)
		}
		if again := told(made(t, list)); !slices.Equal(again, want) {
			t.Errorf("another Para of %v tells otherwise", list)
		}
	}
}

// Rule 4: what is told is the asker's, with its spare room.
func TestLegalIsNew(t *testing.T) {
	for _, list := range [][]api.Item{mixed(), {forced()}, built(t, "a b c d e f g")} {
		p := made(t, list)
		want := told(p)
		first, second := p.Legal(), p.Legal()
		full := first[:cap(first)]
		for k := range full {
			full[k] = -7
		}
		_ = append(first[:0], 99, 98, 97)
		if !slices.Equal(second, ends(list)) || !slices.Equal(p.Legal(), ends(list)) || !slices.Equal(told(p), want) {
			t.Errorf("Legal of %v became %v, %v", list, second, p.Legal())
		}
	}
}

// Rule 4: asking changes nothing, and no Para has anything to do with another one.
func TestAskedAlone(t *testing.T) {
	p, q := made(t, mixed()), made(t, built(t, "a-b c"))
	one, two := told(p), told(q)
	if !slices.Equal(told(p), one) || !slices.Equal(told(q), two) {
		t.Error("a Para tells otherwise the second time")
	}
	measure.New(nil)
	made(t, []api.Item{forced()})
	if !slices.Equal(told(p), one) || !slices.Equal(told(q), two) {
		t.Error("a Para tells otherwise behind another New")
	}
}

// Rule 4: a call's answer hangs on its arguments alone; settings are handed over whole.
func TestCallsAlone(t *testing.T) {
	s := measure.Usual()
	s.Line = 99
	if measure.Usual().Line != 10 {
		t.Error("Usual became other settings")
	}
	f := measure.Set(measure.Sum{Width: 90, Stretch: 20}, 100)
	first := measure.Cost(s, f, forced(), measure.Ahead{Class: 3, Flag: true}, true)
	measure.Cost(measure.Usual(), api.Fit{Over: true}, box(1), measure.Ahead{}, false)
	if again := measure.Cost(s, f, forced(), measure.Ahead{Class: 3, Flag: true}, true); again != first || first != 111*111+15000 {
		t.Errorf("Cost: %d, then %d", first, again)
	}
}

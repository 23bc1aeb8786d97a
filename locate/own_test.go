package locate_test

import (
	"slices"
	"testing"

	"reglet/api"
	"reglet/locate"
	"reglet/metrics"
)

// room: pages that lie in lists with spare room, of which some are the same memory; behind them what is in their spare room.
type room struct {
	runs  []api.Run
	lines []api.Line
	pages []api.Page
}

func inRoom() room {
	runs := cut(2, small, 0, ranged, 3, wide, 9, ranged)
	rows := []api.Line{
		{Text: "a b\u00e9 ", Runs: runs[:3], Num: 1, Den: 3, Y: 0, Hyphen: true},
		{Text: "c\u00ad", Runs: runs[:1], Num: -1, Den: 2, Y: 12},
		{},
		{Text: "spare", Runs: runs[3:]},
	}
	return room{runs, rows, []api.Page{{Lines: rows[:3]}, {}, {Lines: rows[:2]}, {Lines: rows}}}
}

// list: the pages, without those in the spare room.
func (r room) list() []api.Page { return r.pages[:3] }

// same: are two lines, with their runs cut alike?
func same(a, b api.Line) bool {
	glue := a.Num == b.Num && a.Den == b.Den && a.Hyphen == b.Hyphen
	place := a.Y == b.Y && a.Height == b.Height && a.Begin == b.Begin && a.End == b.End
	return glue && place && a.Text == b.Text && slices.Equal(a.Runs, b.Runs)
}

// holds: is all of it as it was?
func (r room) holds(t *testing.T, from string) {
	t.Helper()
	other := inRoom()
	samePage := func(a, b api.Page) bool { return slices.EqualFunc(a.Lines, b.Lines, same) }
	if !slices.Equal(r.runs, other.runs) || !slices.EqualFunc(r.lines, other.lines, same) || !slices.EqualFunc(r.pages, other.pages, samePage) {
		t.Errorf("%s: what was handed in became %v, %v, %v", from, r.pages, r.lines, r.runs)
	}
}

// spoil changes all of it.
func (r room) spoil() {
	for k := range r.runs {
		r.runs[k] = api.Run{Len: 77, Style: 77}
	}
	for k := range r.lines {
		r.lines[k] = api.Line{Text: "spoilt", Y: 77}
	}
	for k := range r.pages {
		r.pages[k] = api.Page{Lines: r.lines[3:]}
	}
}

// P2, rules 3 and 4: what is handed in isn't changed, with its spare room, by no call, refused ones among them.
func TestHandedInIsNotChanged(t *testing.T) {
	m := table(t)
	r := inRoom()
	list := r.list()
	for at := -1; at <= locate.Size(list)+1; at++ {
		locate.Line(list, at)
		locate.Spot(m, list, at)
	}
	r.holds(t, "Size, Line, Spot")
	for n := -1; n <= len(list); n++ {
		for k := -1; k <= 3; k++ {
			locate.Offset(list, n, k)
			for x := -1; x < 60; x += 7 {
				locate.Hit(m, list, api.Spot{Page: n, Line: k, X: x})
			}
		}
	}
	r.holds(t, "Offset, Hit")
	for _, p := range list {
		locate.LineAt(p, 5)
		for _, l := range p.Lines {
			locate.Stops(m, l)
			locate.Width(m, l)
		}
	}
	r.holds(t, "LineAt, Stops, Width")
	if !metrics.Same(m, table(t)) {
		t.Error("the table became another one")
	}
}

// P2, rule 4: what is told is the asker's, with its spare room: nothing that is done to it is seen by another answer.
func TestToldIsNew(t *testing.T) {
	m := table(t)
	r := inRoom()
	for _, l := range append(r.lines, api.Line{Text: "\n"}) {
		first, again := locate.Stops(m, l), locate.Stops(m, l)
		want := slices.Clone(first)
		first = first[:cap(first)]
		for k := range first {
			first[k] = locate.Stop{At: 77, X: 77}
		}
		if !slices.Equal(again, want) || !slices.Equal(locate.Stops(m, l), want) {
			t.Errorf("a change of the Stops of %+v made %v of others", l, again)
		}
	}
	r.holds(t, "Stops")
}

// P2, rule 4: what is handed in isn't kept: to change it later changes nothing that was told, and later calls go by what it is then.
func TestHandedInIsNotKept(t *testing.T) {
	m := table(t)
	r, other := inRoom(), inRoom()
	var told [][]locate.Stop
	for _, l := range r.lines {
		told = append(told, locate.Stops(m, l))
	}
	r.spoil()
	for k, l := range other.lines {
		if want := plainStops(l); !slices.Equal(told[k], want) {
			t.Errorf("the Stops of %+v became %v", l, told[k])
		}
	}
	holdsBook(t, m, r.list())
	holdsBook(t, m, other.list())
}

// P2, rule 3: behind refused calls the next ones answer as if there had been none.
func TestRefused(t *testing.T) {
	m := table(t)
	list := five()
	for _, n := range []int{minInt, -1, 99, maxInt} {
		locate.Line(list, n)
		locate.Offset(list, n, n)
		locate.Spot(m, list, n)
		locate.Hit(m, nil, api.Spot{Page: n, Line: n, X: n})
		locate.Hit(m, list, api.Spot{Page: 1, Line: n, X: n})
		locate.LineAt(api.Page{}, n)
	}
	locate.Spot(m, list, 6)
	holdsBook(t, m, list)
}

// P1: every call ends and none panics, of texts that aren't right and of all numbers, where nothing else is promised.
func TestRaw(t *testing.T) {
	m := table(t)
	numbers := []int{minInt, minInt + 1, -1, 0, 1, 2, 3, maxInt - 1, maxInt}
	for _, text := range []string{"\xff", "a\xc3", "\x80 \x80", "\xe2\x82", "\xed\xa0\x80 ", "\xf4\x90\x80\x80\n", "\xc0\x8a", " \xf0\x9f\x98", "\xe2\x82a", "a \x80"} {
		for _, num := range numbers {
			for _, den := range numbers {
				l := api.Line{Text: text, Runs: cut(1, num, den, ranged, num, wide, maxInt, den), Num: num, Den: den, Hyphen: true, Height: den, Y: num}
				list := []api.Page{{Lines: []api.Line{l, {}, l}}, {}, {Lines: []api.Line{l}}}
				if len(locate.Stops(m, l)) == 0 {
					t.Fatalf("no Stops of %+v", l)
				}
				locate.Width(m, l)
				locate.LineAt(list[0], den)
				for _, n := range numbers {
					locate.Offset(list, n, num)
					locate.Hit(m, list, api.Spot{Page: n, Line: num, X: den})
					locate.Hit(m, list, api.Spot{Page: 0, Line: n, X: n})
				}
				for at := -1; at <= 3*len(text)+1; at++ {
					locate.Line(list, at)
					locate.Spot(m, list, at)
				}
			}
		}
	}
}

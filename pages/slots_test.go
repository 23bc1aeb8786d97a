package pages_test

import (
	"slices"
	"testing"

	"reglet/api"
	"reglet/measure"
	"reglet/pages"
)

// wantRight: Right answers so.
func wantRight(t *testing.T, list []api.Slot, want api.Errno) {
	t.Helper()
	if got := pages.Right(list); got != want {
		t.Errorf("Right(%v): %d, not %d", list, got, want)
	}
}

// P12.1: Right of no lines, of one paragraph and of several.
func TestRight(t *testing.T) {
	for _, list := range [][]api.Slot{
		nil, {}, para(1), kept(para(1)), para(10, 20, 30), kept(para(10, 20, 30)), even(1000, 7),
		document(para(1), para(1)), document(para(1), kept(para(1)), para(1)), document(kept(para(5, 6)), kept(para(7, 8))),
		document(para(1, 2), para(3), para(4, 5, 6), kept(para(7)), para(8, 9)),
	} {
		wantRight(t, list, api.OK)
	}
}

// P12.1: each line's Height at, below and above its bounds.
func TestRightHeight(t *testing.T) {
	whole := document(para(10, 20), kept(para(30)), para(40, 50, 60))
	for line := range whole {
		for _, h := range []int{minInt, -1048576, -1, 0, 1, 2, 1048575, 1048576, 1048577, 1 << 32, maxInt} {
			list := slices.Clone(whole)
			list[line].Height = h
			want := api.ErrRange
			if h >= 1 && h <= 1048576 {
				want = api.OK
			}
			wantRight(t, list, want)
		}
	}
}

// P12.1: a line is missing, is there twice, or two have changed places.
func TestRightOrder(t *testing.T) {
	whole := document(para(1, 2, 3), kept(para(4, 5, 6, 7)), para(8, 9))
	for line, s := range whole {
		wantRight(t, slices.Delete(slices.Clone(whole), line, line+1), api.ErrRange)
		wantRight(t, slices.Insert(slices.Clone(whole), line, s), api.ErrRange)
		if line > 0 {
			list := slices.Clone(whole)
			list[line-1], list[line] = list[line], list[line-1]
			wantRight(t, list, api.ErrRange)
		}
	}
	for from := range len(whole) + 1 {
		for to := from; to <= len(whole); to++ {
			begins := slices.Contains([]int{0, 3, 7, 9}, from) && slices.Contains([]int{0, 3, 7, 9}, to)
			want := api.ErrRange
			if begins || from == to {
				want = api.OK
			}
			wantRight(t, whole[from:to], want)
		}
	}
	// A paragraph of one line may be there as often as one likes, and so may others as a whole.
	wantRight(t, document(para(1), whole, para(1), para(1), whole, whole), api.OK)
}

// P12.1: a Count, an Index or a Keep that isn't as it should be, in one line of several.
func TestRightFields(t *testing.T) {
	whole := document(para(1, 2, 3), kept(para(4, 5)), para(6), para(7, 8))
	for line, s := range whole {
		for _, n := range []int{minInt, -3, -2, -1, 0, 1, 2, 3, 4, 5, 8, 9, maxInt} {
			list := slices.Clone(whole)
			list[line].Count = n
			if n != s.Count {
				wantRight(t, list, api.ErrRange)
			}
			list = slices.Clone(whole)
			list[line].Index = n
			if n != s.Index {
				wantRight(t, list, api.ErrRange)
			}
		}
		list := slices.Clone(whole)
		list[line].Keep = !s.Keep
		want := api.ErrRange
		if s.Count == 1 {
			want = api.OK
		}
		wantRight(t, list, want)
	}
}

// P12.1: Counts that no paragraph has.
func TestRightCount(t *testing.T) {
	for _, list := range [][]api.Slot{
		{{}}, {{Height: 1}}, {{Height: 1, Index: -1}}, {{Height: 1, Index: -1, Count: 1}}, {{Height: 1, Index: -1, Count: -1}}, {{Height: 1, Count: -1}},
		{{Height: 1, Index: 1, Count: 1}}, {{Height: 1, Index: 1, Count: 2}}, {{Height: 1, Count: 2}}, {{Height: 1, Count: maxInt}}, {{Height: 1, Index: maxInt, Count: minInt}},
		{{Height: 1, Count: minInt}}, {{Height: 1, Index: minInt, Count: 1}}, {{Height: 1, Count: 1}, {Height: 1, Index: 1, Count: 1}},
		// The Counts together are the number of lines, but they aren't paragraphs.
		{{Height: 1, Count: 2}, {Height: 1, Count: 2}}, {{Height: 1, Count: 2}, {Height: 1, Index: 1, Count: 1}}, {{Height: 1, Count: 1}, {Height: 1, Index: 1, Count: 2}},
		{{Height: 1, Count: 1}, {Height: 1}}, {{Height: 1}, {Height: 1, Count: 1}},
	} {
		wantRight(t, list, api.ErrRange)
	}
}

// P12.1: May behind each line of paragraphs of many lengths, with few and many Orphans and Widows, by counting lines.
func TestMay(t *testing.T) {
	bounds := []int{1, 2, 3, 4, 5, 7, 8, 9, 99, 100, 101}
	for count := 1; count <= 8; count++ {
		for _, list := range [][]api.Slot{even(count, 10), kept(even(count, 10))} {
			for _, orphans := range bounds {
				for _, widows := range bounds {
					set := asks(orphans, widows)
					for line, s := range list {
						want := line+1 >= orphans && count-(line+1) >= widows
						if line == count-1 {
							want = !s.Keep
						}
						if got := pages.May(s, set); got != want {
							t.Errorf("May(%v), %d and %d: %v", s, orphans, widows, got)
						}
					}
				}
			}
		}
	}
}

// P12.1: May hangs on nothing else: not on the Height, nor on the other settings.
func TestMayOfOthers(t *testing.T) {
	for _, h := range []int{minInt, -1, 0, 1, api.MaxUnit + 1, maxInt} {
		for _, set := range []api.Settings{{Orphans: 2, Widows: 2}, asks(2, 2), {Tolerance: -1, Line: maxInt, Adjacent: minInt, Double: -1, Last: -1, Orphans: 2, Widows: 2}} {
			for line, want := range []bool{false, true, true, false, true} {
				if got := pages.May(api.Slot{Height: h, Index: line, Count: 5}, set); got != want {
					t.Errorf("May of line %d, Height %d, %v: %v", line, h, set, got)
				}
			}
		}
	}
}

// P12.1, P1: May of numbers that no line has, and of settings that may not be: there is no wrap-round.
func TestMayRaw(t *testing.T) {
	for _, c := range []struct {
		index, count, orphans, widows int
		keep, want                    bool
	}{
		{0, 0, 1, 1, false, false}, {0, 0, 2, 2, true, false}, {5, 3, 1, 1, false, false}, {3, 3, 1, 1, false, false}, {-1, 4, 1, 1, false, false}, {-2, 4, 1, 1, true, false},
		// Less than one line is asked for.
		{0, 3, 0, 0, false, true}, {1, 3, -5, -5, true, true}, {0, 3, 0, 3, false, false}, {2, 3, 0, 0, false, true}, {2, 3, 0, 0, true, false}, {2, 3, maxInt, maxInt, false, true},
		{0, 3, minInt, minInt, false, true}, {0, 3, minInt, 2, false, true}, {0, 3, minInt, 3, false, false}, {0, 3, 1, minInt, false, true}, {0, 3, 2, minInt, false, false},
		{3, 3, 1, 0, false, false}, {3, 3, 1, -1, true, true}, {5, 3, 1, -2, false, false}, {5, 3, 1, -3, false, true}, {-1, 4, 0, 1, false, true}, {-3, 4, -1, 1, false, false},
		// More lines are asked for than a number can tell.
		{0, 3, maxInt, 1, false, false}, {0, 3, 1, maxInt, false, false},
		{0, maxInt, 1, maxInt - 1, false, true}, {0, maxInt, 1, maxInt, false, false}, {1, maxInt, 1, maxInt - 1, false, false}, {1, maxInt, 2, maxInt - 2, false, true},
		{maxInt - 2, maxInt, maxInt - 1, 1, false, true}, {maxInt - 2, maxInt, maxInt, 1, false, false}, {maxInt - 1, maxInt, 1, 1, false, true}, {maxInt - 1, maxInt, 1, 1, true, false},
		// Lines that are far apart.
		{maxInt, minInt, 1, 1, false, false}, {maxInt, minInt, 1, 1, true, false}, {maxInt, minInt, maxInt, minInt, false, false}, {minInt, maxInt, 1, 1, false, false},
		{minInt, maxInt, minInt, maxInt, false, true}, {minInt, maxInt, minInt, 1, false, true}, {minInt, minInt, 1, 1, false, false}, {maxInt, maxInt, 1, 1, false, false},
		{maxInt, maxInt, 1, 0, false, false}, {maxInt, 0, maxInt, 1, false, false}, {-2, maxInt, -1, maxInt, false, true}, {-1, maxInt, 0, maxInt, false, true}, {-1, maxInt, 1, maxInt, false, false},
	} {
		s := api.Slot{Height: 10, Index: c.index, Count: c.count, Keep: c.keep}
		if got := pages.May(s, asks(c.orphans, c.widows)); got != c.want {
			t.Errorf("May(%v), %d and %d: %v", s, c.orphans, c.widows, got)
		}
	}
}

// wrongSettings: such as measure.Check refuses.
func wrongSettings() []api.Settings {
	return []api.Settings{{}, asks(0, 2), asks(2, 0), asks(101, 2), asks(2, 101), asks(-1, -1), {Tolerance: -1, Orphans: 1, Widows: 1}, {Tolerance: 10001, Orphans: 1, Widows: 1},
		{Line: 10001, Orphans: 1, Widows: 1}, {Adjacent: -1, Orphans: 1, Widows: 1}, {Double: 1<<20 + 1, Orphans: 1, Widows: 1}, {Last: -1, Orphans: 1, Widows: 1}, asks(minInt, maxInt)}
}

// rightSettings: such as it takes.
func rightSettings() []api.Settings {
	return []api.Settings{measure.Usual(), asks(1, 1), asks(100, 1), asks(1, 100), asks(100, 100), {Orphans: 1, Widows: 1}, {Tolerance: 10000, Line: 10000, Adjacent: 1 << 20, Double: 1 << 20, Last: 1 << 20, Orphans: 100, Widows: 100}}
}

// P12.1: Check with heights at, below and above the bounds; the height's error comes first.
func TestCheck(t *testing.T) {
	for _, height := range []int{minInt, -1073741824, -1, 0, 1073741825, 1 << 32, maxInt} {
		for _, set := range append(wrongSettings(), rightSettings()...) {
			if e := pages.Check(height, set); e != api.ErrWidth {
				t.Errorf("Check(%d, %v): %d", height, set, e)
			}
		}
	}
	for _, height := range []int{1, 2, 1000, 1073741823, 1073741824} {
		for _, set := range wrongSettings() {
			if e := pages.Check(height, set); e != api.ErrSettings {
				t.Errorf("Check(%d, %v): %d", height, set, e)
			}
		}
		for _, set := range rightSettings() {
			if e := pages.Check(height, set); e != api.OK {
				t.Errorf("Check(%d, %v): %d", height, set, e)
			}
		}
	}
}

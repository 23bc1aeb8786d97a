package breaks_test

import (
	"testing"

	"reglet/api"
	"reglet/measure"
)

// wanted is a paragraph with what Break tells of it.
type wanted struct {
	name  string
	list  []api.Item
	width int
	set   api.Settings
	want  api.Breaking
}

// holdsAll asks Break for each answer, and the search through all ways for the same ones.
func holdsAll(t *testing.T, all []wanted) {
	t.Helper()
	for _, c := range all {
		if got := (task{made(t, c.list), c.width, c.set}).holds(t); !alike(got, c.want) {
			t.Errorf("%s: Break(%v, %d, %v): %v, not %v", c.name, c.list, c.width, c.set, got, c.want)
		}
	}
}

// way: a Breaking of these breaks that kept to the tolerance.
func way(total int, list ...int) api.Breaking { return api.Breaking{Breaks: list, Total: total} }

// atNeed: one that took the emergency's rule.
func atNeed(total int, list ...int) api.Breaking {
	return api.Breaking{Breaks: list, Total: total, Emergency: true}
}

// usual: the usual settings, with another tolerance.
func usual(tolerance int) api.Settings {
	s := measure.Usual()
	s.Tolerance = tolerance
	return s
}

// costly: settings with these costs, and a tolerance for anything that isn't Over.
func costly(line, adjacent, double, last int) api.Settings {
	return api.Settings{Tolerance: 10000, Line: line, Adjacent: adjacent, Double: double, Last: last, Orphans: 1, Widows: 1}
}

// worst: what a line costs whose Bad is 10000, by the usual settings.
const worst = 10010 * 10010

// P9.2: the chapter's example.
func TestExample(t *testing.T) {
	holdsAll(t, []wanted{
		{"two words and one", words(30, 30, 30), 70, usual(200), way(200, 3, 6)},
		{"too narrow", words(30, 30, 30), 20, usual(200), atNeed(awful, 1, 3, 6)},
	})
}

// P9.2: one break alone, and breaks that are all Forced: there is but one way.
func TestOneWay(t *testing.T) {
	holdsAll(t, []wanted{
		{"one item", []api.Item{forced()}, 10, usual(200), atNeed(worst, 0)},
		{"one item, any line", []api.Item{forced()}, 10, usual(10000), way(worst, 0)},
		{"one item as wide as the line", []api.Item{penalty(10, -10000)}, 10, usual(0), way(100, 0)},
		{"one item that is wider", []api.Item{penalty(11, -10000)}, 10, usual(10000), atNeed(awful, 0)},
		{"filled", []api.Item{fill(), forced()}, 10, usual(0), way(100, 1)},
		{"one word", words(30), 30, usual(0), way(100, 2)},
		{"one word, filled", words(30), 31, usual(0), way(100, 2)},
		{"one word too wide", words(30), 29, usual(0), atNeed(awful, 2)},
		{"nothing legal but the last", []api.Item{box(5), penalty(0, 10000), fill(), glue(3, 1, 1), penalty(9, 10000), forced()}, 10, usual(0), way(100, 5)},
		{"Forced in a row", []api.Item{forced(), forced(), forced()}, 10, usual(200), atNeed(3*worst, 0, 1, 2)},
		{"Forced in a row, just as wide", []api.Item{penalty(9, -10000), penalty(9, -10000)}, 9, usual(0), way(200, 0, 1)},
		{"Forced first", []api.Item{forced(), box(10), fill(), forced()}, 10, usual(10000), way(worst+100+10000, 0, 3)},
		{"every break Forced", []api.Item{box(10), forced(), box(10), forced(), box(10), fill(), forced()}, 10, usual(0), way(300, 1, 3, 6)},
		{"Forced where one line had room for all", []api.Item{box(2), fill(), forced(), box(2), fill(), forced(), box(2), fill(), forced()}, 10, usual(0), way(300, 2, 5, 8)},
		{"behind it only what is dropped", []api.Item{box(10), forced(), glue(50, 1, 1), penalty(60, 10000), fill(), forced()}, 10, usual(0), way(200, 1, 5)},
	})
}

// P9.2: Forced items between others: each way has them.
func TestForcedBetween(t *testing.T) {
	holdsAll(t, []wanted{
		{"one in the middle", append(words(30, 30, 30), words(30, 30, 30)...), 70, usual(200), way(400, 3, 6, 10, 13)},
		{"two in the middle", append(append(words(30, 30, 30), fill(), forced()), words(30)...), 70, usual(200), way(400, 3, 6, 8, 11)},
		{"two at the end", append(words(30, 30, 30), fill(), forced()), 70, usual(200), way(300, 3, 6, 8)},
		{"what goes on behind it would be cheaper", filled(penalty(0, 0), forced(), penalty(0, 0)), 40, costly(10, 0, 0, 0), way(200, 5, 11)},
		{"nearly Forced", filled(penalty(0, -9999), penalty(0, -9999)), 30, costly(10000, 0, 0, 0), way(10000*10000, 8)},
		{"nearly Forced, taken off down to nothing", filled(penalty(0, -9999), penalty(0, -9999)), 30, costly(10, 0, 0, 0), way(100, 2, 5, 8)},
	})
}

// P9.2: one way does, several do, and the line that looks best first isn't the way's.
func TestCheapest(t *testing.T) {
	holdsAll(t, []wanted{
		{"one way does", words(30, 30, 30, 30), 70, usual(0), way(200, 3, 8)},
		{"several do", spaced(glue(10, 10, 5), 20, 20, 20, 20, 20), 80, usual(10000), way(200, 5, 10)},
		{"all in one line", words(30, 30, 30), 110, usual(10000), way(100, 6)},
		// The first line costs 100 up to item 2, 500 up to item 5; but behind item 2 the next one costs 500 or more.
		{"dearer at first", filled(penalty(0, 0), penalty(0, 20), penalty(0, 90)), 20, costly(10, 0, 0, 0), way(600, 5, 11)},
		{"cheaper at first", filled(penalty(0, 0), penalty(0, 30), penalty(0, 19)), 20, costly(10, 0, 0, 0), way(661, 2, 8, 11)},
	})
}

// P9.2: of several that cost as much the one whose first break is least, of these the one whose second is, and so on.
func TestTies(t *testing.T) {
	plain := func(n int) []api.Item {
		var ends []api.Item
		for range n - 1 {
			ends = append(ends, penalty(0, 0))
		}
		return filled(ends...)
	}
	holdsAll(t, []wanted{
		{"nothing costs anything", plain(4), 40, costly(0, 0, 0, 0), way(0, 2, 5, 8, 11)},
		{"the fewest lines", plain(3), 30, costly(10, 0, 0, 0), way(100, 8)},
		{"one and two, or two and one", plain(3), 20, costly(10, 0, 0, 0), way(200, 2, 8)},
		{"the first least of three", plain(5), 20, costly(10, 0, 0, 0), way(300, 2, 8, 14)},
		{"the first least of six", plain(7), 30, costly(10, 0, 0, 0), way(300, 2, 11, 20)},
		{"the first one Forced", filled(forced(), penalty(0, 0), penalty(0, 0)), 20, costly(10, 0, 0, 0), way(300, 2, 5, 11)},
		{"the first one alone does, then several", append([]api.Item{box(20), penalty(0, 0)}, plain(3)...), 20, costly(10, 0, 0, 0), way(300, 1, 4, 10)},
		{"Glue as well as a Penalty", spaced(glue(10, 10, 5), 40, 40, 10, 10, 20), 100, costly(10, 0, 0, 0), way(12200, 3, 10)},
		// Bad is 10000 for all of these: the line is far too short.
		{"hopeless ones", []api.Item{box(1), penalty(0, 0), box(1), penalty(0, 0), box(1), penalty(0, 0), box(2), forced()}, 4, costly(10, 0, 0, 0), way(worst+100, 1, 7)},
		{"hopeless ones behind each other", []api.Item{box(2), penalty(0, 0), box(2), penalty(0, 0), box(2), penalty(0, 0), box(2), penalty(0, 0), box(2), forced()}, 5, costly(10, 0, 0, 0), way(3*worst, 1, 5, 9)},
	})
}

// twoEnds: for a width of 80 the first line ends at item 3, Bad 0, or at item 4, Bad 45, where it costs less.
func twoEnds() []api.Item {
	return []api.Item{box(30), glue(10, 13, 0), box(30), penalty(10, 90), penalty(0, 0), box(20), fill(), forced()}
}

// P9.2: a tolerance of nothing, at a line's Bad, below it, and for anything. Two words are 70 wide with a stretch of 20, so their Bad is 12; one alone has no stretch.
func TestTolerance(t *testing.T) {
	list := spaced(glue(10, 20, 3), 30, 30, 30)
	const total = 22*22 + 100
	holdsAll(t, []wanted{
		{"0", list, 80, usual(0), atNeed(total, 3, 6)},
		{"below", list, 80, usual(11), atNeed(total, 3, 6)},
		{"at", list, 80, usual(12), way(total, 3, 6)},
		{"above", list, 80, usual(13), way(total, 3, 6)},
		{"the greatest", list, 80, usual(10000), way(total, 3, 6)},
		{"below the worst", words(30, 30), 60, usual(9999), atNeed(worst+10000+100, 1, 4)},
		{"at the worst", words(30, 30), 60, usual(10000), way(worst+10000+100, 1, 4)},
		{"the dearer way does", twoEnds(), 80, usual(44), way(100+90*90+100, 3, 7)},
		{"the cheaper way does, too", twoEnds(), 80, usual(45), way(55*55+100, 4, 7)},
	})
}

// P9.2: classes that are more than 1 apart turn the choice. Two words and a space are 90 wide and stretched by 10 of 10 (Bad 100, VeryLoose), with a third one 110 and shrunk by 10 of 10 (Bad 100, Tight); the last line is Decent.
func TestAdjacent(t *testing.T) {
	list := spaced(glue(10, 10, 5), 40, 40, 10, 10, 20)
	holdsAll(t, []wanted{
		{"as dear", list, 100, costly(10, 0, 0, 0), way(12200, 3, 10)},
		{"dearer by 1", list, 100, costly(10, 1, 0, 0), way(12200, 5, 10)},
		{"dearer by most", list, 100, costly(10, 1<<20, 0, 0), way(12200, 5, 10)},
		{"usual", list, 100, usual(200), way(12200, 5, 10)},
		// Up to item 11 it is cheaper by item 7 (39 and 810, squared) than by item 5 (810 and 10, squared, and 10000), but the line that ends there is VeryLoose then.
		{"cheaper up to a break, dearer in the end", spaced(glue(10, 10, 5), 20, 10, 10, 10, 40, 30, 40), 100, usual(1000), way(810*810+100+10000+100, 5, 11, 14)},
	})
}

// P9.2: Flags at two breaks in a row, and ahead of the last line, turn the choice.
func TestFlags(t *testing.T) {
	no, yes := penalty(0, 0), flagged(penalty(0, 0))
	four, six := filled(no, yes, no), filled(no, yes, no, yes, no)
	holdsAll(t, []wanted{
		{"ahead of the last, for nothing", four, 20, costly(10, 0, 0, 0), way(200, 5, 11)},
		{"ahead of the last, less than a line", four, 20, costly(10, 0, 0, 99), way(299, 5, 11)},
		{"ahead of the last, as much as a line", four, 20, costly(10, 0, 0, 100), way(300, 2, 8, 11)},
		{"ahead of the last, Double alone", four, 20, costly(10, 0, 1<<20, 0), way(200, 5, 11)},
		{"in a row, for nothing", six, 20, costly(10, 0, 0, 0), way(300, 5, 11, 17)},
		{"in a row, less than a line", six, 20, costly(10, 0, 99, 0), way(399, 5, 11, 17)},
		{"in a row, as much as a line", six, 20, costly(10, 0, 100, 0), way(400, 2, 8, 11, 17)},
		{"in a row, and ahead of the last", six, 20, costly(10, 0, 100, 1), way(400, 2, 8, 14, 17)},
		{"at the last item", filled(no, yes), 20, costly(10, 0, 1000, 0), way(200, 2, 8)},
		{"both at the last item", append(filled(yes)[:3], box(10), fill(), flagged(forced())), 10, costly(10, 0, 1000, 3000), way(4200, 2, 5)},
		{"the first line has none ahead", []api.Item{box(10), flagged(forced()), box(10), forced()}, 10, costly(10, 0, 1000, 3000), way(3200, 1, 3)},
		// Lines that are hopeless have Flags, too.
		{"hopeless, ahead of the last", []api.Item{box(2), no, box(2), yes, box(2), forced()}, 5, costly(10, 0, 0, 0), way(2*worst, 1, 5)},
		{"hopeless, from the first Flag", []api.Item{box(2), yes, box(2), no, box(2), forced()}, 5, costly(10, 0, 0, 1), way(2*worst, 3, 5)},
		{"hopeless, in a row", []api.Item{box(4), yes, box(2), yes, box(2), no, box(4), forced()}, 5, costly(10, 0, 1, 0), way(3*worst, 1, 5, 7)},
	})
}

// P9.2: no way does: by the emergency's rule those that aren't Over come first, however bad.
func TestEmergency(t *testing.T) {
	holdsAll(t, []wanted{
		{"too loose, each", words(30, 30, 30), 60, usual(200), atNeed(2*worst+10000+100, 1, 3, 6)},
		{"one line is too loose, the others keep no tolerance either", append([]api.Item{box(1), forced()}, spaced(glue(10, 20, 3), 30, 30, 30)...), 80, usual(12), atNeed(worst+22*22+10000+100, 1, 5, 8)},
		// Behind the Forced item there is a way that keeps to the tolerance; the cheaper one does by the emergency's rule.
		{"all lines do by it", append([]api.Item{box(1), forced()}, twoEnds()...), 80, usual(44), atNeed(worst+55*55+100, 1, 6, 9)},
		{"Over by what the first break adds: another way isn't", []api.Item{box(20), penalty(20, 0), box(5), forced()}, 30, usual(200), atNeed(worst, 3)},
		{"Over by what the second break adds", []api.Item{box(20), penalty(0, 0), box(5), penalty(20, 0), box(5), forced()}, 31, usual(200), atNeed(worst, 5)},
	})
}

// P9.2: where by the emergency's rule a line can't but be Over, all ways cost Awful: the least breaks are all of them.
func TestOver(t *testing.T) {
	holdsAll(t, []wanted{
		{"a line that is Over ends at the first break", []api.Item{box(10), penalty(0, 0), box(50), forced()}, 30, usual(200), atNeed(awful, 1, 3)},
		{"the first line", []api.Item{box(50), penalty(0, 0), box(10), fill(), forced()}, 30, usual(200), atNeed(awful, 1, 4)},
		{"one of five words", words(10, 10, 50, 10, 10), 30, usual(200), atNeed(awful, 1, 3, 5, 7, 10)},
		{"behind lines that do", append(words(30, 30, 30), words(71, 30, 30)...), 70, usual(200), atNeed(awful, 1, 3, 6, 8, 10, 13)},
		{"ahead of lines that do", append(words(71, 30, 30), words(30, 30, 30)...), 70, usual(10000), atNeed(awful, 1, 3, 6, 8, 10, 13)},
		{"breaks that cost", []api.Item{box(50), penalty(9, 9999), box(5), flagged(penalty(0, 50)), box(5), fill(), forced()}, 30, usual(200), atNeed(awful, 1, 3, 6)},
		{"what is dropped makes empty lines", []api.Item{box(50), penalty(0, 0), glue(5, 1, 1), penalty(0, 0), penalty(0, 10000), penalty(0, 0), box(5), forced()}, 30, usual(200), atNeed(awful, 1, 3, 5, 7)},
		{"as wide as items may be", []api.Item{box(1 << 36), glue(1<<36, 1<<36, 1<<36), box(1 << 36), forced()}, 1 << 30, usual(10000), atNeed(awful, 1, 3)},
	})
}

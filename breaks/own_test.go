package breaks_test

import (
	"slices"
	"testing"

	"reglet/api"
	"reglet/breaks"
	"reglet/measure"
)

// told: all that a Para tells, so that two of them can be held against each other.
func told(p *measure.Para) []any {
	all := []any{p.Items(), p.Ends()}
	for _, k := range p.Legal() {
		all = append(all, k)
	}
	for a := -1; a <= p.Items(); a++ {
		all = append(all, p.Item(a), p.End(a), p.Start(a))
		for b := -1; b <= p.Items(); b++ {
			low, high, fills := p.Bounds(a, b)
			all = append(all, p.Line(a, b), low, high, fills, p.Fit(a, b, 50))
		}
	}
	return all
}

// ownTasks: one that keeps to the tolerance, one in need, one whose lines are Over, and ones with hopeless lines.
func ownTasks(t *testing.T) []task {
	return []task{
		{made(t, words(30, 30, 30)), 70, usual(200)},
		{made(t, words(30, 30, 30)), 60, usual(200)},
		{made(t, words(30, 30, 30)), 20, usual(200)},
		{made(t, words(30, 30, 30, 30, 30)), 1 << 20, usual(10000)},
		{made(t, built(t, "one two-three fo\u00adur five\u2028six seven")), 80, usual(10000)},
		{made(t, []api.Item{forced()}), 1, usual(0)},
	}
}

// Rule 4: a paragraph that is handed in is the same behind Break, also behind a refused one; the settings are the asker's.
func TestHandedIn(t *testing.T) {
	for _, k := range ownTasks(t) {
		want, list, set := told(k.p), k.list(), k.set
		breaks.Break(k.p, 0, k.set)
		breaks.Break(k.p, k.width, api.Settings{})
		k.broken(t)
		if !slices.Equal(told(k.p), want) || !slices.Equal(k.list(), list) || k.set != set {
			t.Errorf("Break changed %v, %v", list, set)
		}
	}
}

// Rule 4: what is told is the asker's, with its spare room: nothing that is done to it is seen by the paragraph, by an earlier or by a later answer.
func TestToldIsNew(t *testing.T) {
	for _, k := range ownTasks(t) {
		want := k.best()
		para := told(k.p)
		first, second := k.broken(t), k.broken(t)
		full := first.Breaks[:cap(first.Breaks)]
		for n := range full {
			full[n] = -7
		}
		_ = append(first.Breaks[:0], 99, 98, 97)
		if !alike(second, want) || !alike(k.broken(t), want) || !slices.Equal(told(k.p), para) {
			t.Errorf("%v became %v, %v", want, second, k.broken(t))
		}
	}
}

// Rule 4: paragraphs have nothing to do with each other, nor have calls.
func TestAskedAlone(t *testing.T) {
	tasks := ownTasks(t)
	var want []api.Breaking
	for _, k := range tasks {
		want = append(want, k.broken(t))
	}
	for _, k := range slices.Backward(tasks) {
		k.broken(t)
	}
	for n, k := range tasks {
		if got := k.broken(t); !alike(got, want[n]) {
			t.Errorf("Break told %v, then %v", want[n], got)
		}
	}
}

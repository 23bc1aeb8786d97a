package runs

import (
	"slices"
	"testing"

	"reglet/api"
)

// model is a plain list of each byte's style, and the chapter's sentences gone through one by one.
type model struct {
	styles []int
	first  int // the first byte's style when there was last one ahead of a Delete, or New's
}

func (m *model) copy() *model {
	return &model{styles: slices.Clone(m.styles), first: m.first}
}

func (m *model) near(at int) (int, api.Errno) {
	switch {
	case at < 0, at > len(m.styles):
		return 0, api.ErrOffset
	case len(m.styles) == 0:
		return m.first, api.OK
	case at == 0:
		return m.styles[0], api.OK
	}
	return m.styles[at-1], api.OK
}

func (m *model) partFault(from, to int) api.Errno {
	if from < 0 || to > len(m.styles) || from > to {
		return api.ErrOffset
	}
	return api.OK
}

func styleFault(s int) api.Errno {
	if s < 0 || s > 31 {
		return api.ErrStyle
	}
	return api.OK
}

func (m *model) insert(at, n int) api.Errno {
	s, err := m.near(at)
	switch {
	case err != api.OK:
		return err
	case n < 0:
		return api.ErrRange
	case n > 65536, len(m.styles)+n > 65536:
		return api.ErrSize
	}
	m.styles = slices.Insert(m.styles, at, slices.Repeat([]int{s}, n)...)
	return api.OK
}

func (m *model) delete(from, to int) api.Errno {
	if err := m.partFault(from, to); err != api.OK {
		return err
	}
	if len(m.styles) > 0 {
		m.first = m.styles[0]
	}
	m.styles = slices.Delete(m.styles, from, to)
	return api.OK
}

func (m *model) set(from, to, s int) (bool, api.Errno) {
	if err := m.partFault(from, to); err != api.OK {
		return false, err
	}
	if err := styleFault(s); err != api.OK {
		return false, err
	}
	changed := false
	for i := from; i < to; i++ {
		changed = changed || m.styles[i] != s
		m.styles[i] = s
	}
	return changed, api.OK
}

func (m *model) lay(at int, list []api.Run) api.Errno {
	if at < 0 || at > len(m.styles) {
		return api.ErrOffset
	}
	laid := slices.Clone(m.styles)
	for _, run := range list {
		if run.Len < 0 {
			return api.ErrRange
		}
		if err := styleFault(run.Style); err != api.OK {
			return err
		}
		if run.Len > len(laid)-at {
			return api.ErrOffset
		}
		for range run.Len {
			laid[at] = run.Style
			at++
		}
	}
	m.styles = laid
	return api.OK
}

func (m *model) runs(from, to int) []api.Run {
	var list []api.Run
	for i := from; i < to; i++ {
		if i > from && m.styles[i] == m.styles[i-1] {
			list[len(list)-1].Len++
			continue
		}
		list = append(list, api.Run{Len: 1, Style: m.styles[i]})
	}
	return list
}

// agree holds all that a list tells against the model.
func (m *model) agree(t *testing.T, l *List) {
	t.Helper()
	runs := m.runs(0, len(m.styles))
	if got := l.Runs(); !slices.Equal(got, runs) {
		t.Fatalf("Runs: %v, want %v", got, runs)
	}
	if l.Len() != len(m.styles) || l.Count() != len(runs) {
		t.Fatalf("Len %d, Count %d, want %d, %d", l.Len(), l.Count(), len(m.styles), len(runs))
	}
	most := slices.Max(append([]int{-1}, m.styles...))
	if l.Most() != most {
		t.Fatalf("Most: %d, want %d", l.Most(), most)
	}
	for at, s := range m.styles {
		if got, ok := l.At(at); got != s || !ok {
			t.Fatalf("At(%d): %d, %v, want %d", at, got, ok, s)
		}
	}
	for _, at := range []int{minInt, -1, len(m.styles), len(m.styles) + 1, maxInt} {
		if got, ok := l.At(at); got != 0 || ok {
			t.Fatalf("At(%d) of %d bytes: %d, %v", at, len(m.styles), got, ok)
		}
	}
	for at := -1; at <= len(m.styles)+1; at++ {
		want, wantErr := m.near(at)
		if got, err := l.Near(at); got != want || err != wantErr {
			t.Fatalf("Near(%d): %d, %d, want %d, %d", at, got, err, want, wantErr)
		}
	}
	m.agreeEach(t, l)
}

func (m *model) agreeEach(t *testing.T, l *List) {
	t.Helper()
	runs := m.runs(0, len(m.styles))
	i, place := 0, 0
	for at, run := range l.Each() {
		if i >= len(runs) || at != place || run != runs[i] {
			t.Fatalf("Each, run %d: %v at %d, want it of %v at %d", i, run, at, runs, place)
		}
		i++
		place += run.Len
	}
	if i != len(runs) {
		t.Fatalf("Each: %d runs, want %d", i, len(runs))
	}
}

const (
	maxInt = int(^uint(0) >> 1)
	minInt = -maxInt - 1
)

// made: a list that has the runs, which are right ones.
func made(t *testing.T, runs ...api.Run) *List {
	t.Helper()
	n := 0
	for _, run := range runs {
		n += run.Len
	}
	l, err := New(n, 0)
	if err != api.OK {
		t.Fatalf("New(%d, 0): %d", n, err)
	}
	if err := l.Lay(0, runs); err != api.OK {
		t.Fatalf("Lay(0, %v): %d", runs, err)
	}
	return l
}

// wantRuns holds a list's runs against those that it should have.
func wantRuns(t *testing.T, l *List, runs ...api.Run) {
	t.Helper()
	if got := l.Runs(); !slices.Equal(got, runs) {
		t.Errorf("Runs: %v, want %v", got, runs)
	}
}

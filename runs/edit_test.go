package runs

import (
	"slices"
	"testing"

	"reglet/api"
)

// The chapter's examples.
func TestExamples(t *testing.T) {
	l, err := New(4, 0)
	if err != api.OK {
		t.Fatalf("New: %d", err)
	}
	if changed, err := l.Set(1, 3, 2); !changed || err != api.OK {
		t.Errorf("Set: %v, %d", changed, err)
	}
	wantRuns(t, l, api.Run{Len: 1, Style: 0}, api.Run{Len: 2, Style: 2}, api.Run{Len: 1, Style: 0})
	if err := l.Insert(3, 2); err != api.OK {
		t.Errorf("Insert: %d", err)
	}
	wantRuns(t, l, api.Run{Len: 1, Style: 0}, api.Run{Len: 4, Style: 2}, api.Run{Len: 1, Style: 0})
}

func three(t *testing.T) *List {
	return made(t, api.Run{Len: 2, Style: 4}, api.Run{Len: 1, Style: 0}, api.Run{Len: 3, Style: 31})
}

// P5.2.
func TestInsert(t *testing.T) {
	tests := []struct {
		at, n int
		err   api.Errno
		want  []int // the three runs' lengths
	}{
		{0, 5, api.OK, []int{7, 1, 3}},
		{1, 5, api.OK, []int{7, 1, 3}},
		{2, 5, api.OK, []int{7, 1, 3}},
		{3, 5, api.OK, []int{2, 6, 3}},
		{4, 5, api.OK, []int{2, 1, 8}},
		{6, 5, api.OK, []int{2, 1, 8}},
		{3, 0, api.OK, []int{2, 1, 3}},
		{6, 65530, api.OK, []int{2, 1, 65533}},
		{6, 65531, api.ErrSize, []int{2, 1, 3}},
		{0, maxInt, api.ErrSize, []int{2, 1, 3}},
		{0, -1, api.ErrRange, []int{2, 1, 3}},
		{0, minInt, api.ErrRange, []int{2, 1, 3}},
		{-1, 1, api.ErrOffset, []int{2, 1, 3}},
		{7, 1, api.ErrOffset, []int{2, 1, 3}},
		{7, 0, api.ErrOffset, []int{2, 1, 3}},
		{minInt, 1, api.ErrOffset, []int{2, 1, 3}},
		{maxInt, 1, api.ErrOffset, []int{2, 1, 3}},
		{-1, -1, api.ErrOffset, []int{2, 1, 3}},
		{7, -1, api.ErrOffset, []int{2, 1, 3}},
		{7, 65531, api.ErrOffset, []int{2, 1, 3}},
	}
	for _, test := range tests {
		l := three(t)
		if err := l.Insert(test.at, test.n); err != test.err {
			t.Errorf("Insert(%d, %d): %d, want %d", test.at, test.n, err, test.err)
		}
		w := test.want
		wantRuns(t, l, api.Run{Len: w[0], Style: 4}, api.Run{Len: w[1], Style: 0}, api.Run{Len: w[2], Style: 31})
	}
}

// P5.2: up to exactly MaxText bytes, from none and from all but one.
func TestInsertUpToMost(t *testing.T) {
	l, _ := New(0, 3)
	if err := l.Insert(0, 65537); err != api.ErrSize {
		t.Errorf("Insert of 65537: %d", err)
	}
	wantRuns(t, l)
	if err := l.Insert(0, 65536); err != api.OK {
		t.Errorf("Insert of 65536: %d", err)
	}
	wantRuns(t, l, api.Run{Len: 65536, Style: 3})
	if err := l.Insert(0, 1); err != api.ErrSize {
		t.Errorf("Insert of one more: %d", err)
	}
	if err := l.Insert(0, 0); err != api.OK {
		t.Errorf("Insert of none more: %d", err)
	}
	if err := l.Insert(0, -1); err != api.ErrRange {
		t.Errorf("Insert of -1: %d", err)
	}
	wantRuns(t, l, api.Run{Len: 65536, Style: 3})
}

// P5.2.
func TestDelete(t *testing.T) {
	all := []api.Run{{Len: 2, Style: 4}, {Len: 1, Style: 0}, {Len: 3, Style: 31}}
	tests := []struct {
		from, to int
		err      api.Errno
		want     []api.Run
	}{
		{0, 0, api.OK, all},
		{2, 2, api.OK, all},
		{6, 6, api.OK, all},
		{0, 6, api.OK, nil},
		{0, 1, api.OK, []api.Run{{Len: 1, Style: 4}, {Len: 1, Style: 0}, {Len: 3, Style: 31}}},
		{0, 2, api.OK, []api.Run{{Len: 1, Style: 0}, {Len: 3, Style: 31}}},
		{2, 3, api.OK, []api.Run{{Len: 2, Style: 4}, {Len: 3, Style: 31}}},
		{1, 4, api.OK, []api.Run{{Len: 1, Style: 4}, {Len: 2, Style: 31}}},
		{4, 5, api.OK, []api.Run{{Len: 2, Style: 4}, {Len: 1, Style: 0}, {Len: 2, Style: 31}}},
		{3, 6, api.OK, []api.Run{{Len: 2, Style: 4}, {Len: 1, Style: 0}}},
		{-1, 2, api.ErrOffset, all},
		{-1, -1, api.ErrOffset, all},
		{minInt, maxInt, api.ErrOffset, all},
		{0, 7, api.ErrOffset, all},
		{7, 7, api.ErrOffset, all},
		{3, 2, api.ErrOffset, all},
		{6, 0, api.ErrOffset, all},
		{maxInt, minInt, api.ErrOffset, all},
	}
	for _, test := range tests {
		l := three(t)
		if err := l.Delete(test.from, test.to); err != test.err {
			t.Errorf("Delete(%d, %d): %d, want %d", test.from, test.to, err, test.err)
		}
		wantRuns(t, l, test.want...)
	}
}

// What stands between two runs of one style goes: they are one run then.
func TestDeleteJoins(t *testing.T) {
	l := made(t, api.Run{Len: 2, Style: 1}, api.Run{Len: 3, Style: 5}, api.Run{Len: 4, Style: 1})
	l.Delete(2, 5)
	wantRuns(t, l, api.Run{Len: 6, Style: 1})
	if l.Count() != 1 {
		t.Errorf("Count: %d, want 1", l.Count())
	}
}

// P5.3.
func TestSet(t *testing.T) {
	all := []api.Run{{Len: 2, Style: 4}, {Len: 1, Style: 0}, {Len: 3, Style: 31}}
	tests := []struct {
		from, to, s int
		changed     bool
		err         api.Errno
		want        []api.Run
	}{
		{0, 6, 7, true, api.OK, []api.Run{{Len: 6, Style: 7}}},
		{0, 2, 4, false, api.OK, all},
		{1, 2, 4, false, api.OK, all},
		{1, 3, 4, true, api.OK, []api.Run{{Len: 3, Style: 4}, {Len: 3, Style: 31}}},
		{2, 4, 0, true, api.OK, []api.Run{{Len: 2, Style: 4}, {Len: 2, Style: 0}, {Len: 2, Style: 31}}},
		{2, 3, 31, true, api.OK, []api.Run{{Len: 2, Style: 4}, {Len: 4, Style: 31}}},
		{4, 5, 0, true, api.OK, []api.Run{{Len: 2, Style: 4}, {Len: 1, Style: 0}, {Len: 1, Style: 31}, {Len: 1, Style: 0}, {Len: 1, Style: 31}}},
		{0, 0, 9, false, api.OK, all},
		{2, 2, 9, false, api.OK, all},
		{6, 6, 9, false, api.OK, all},
		{0, 1, 32, false, api.ErrStyle, all},
		{0, 1, -1, false, api.ErrStyle, all},
		{0, 0, 32, false, api.ErrStyle, all},
		{0, 1, maxInt, false, api.ErrStyle, all},
		{0, 1, minInt, false, api.ErrStyle, all},
		{-1, 2, 9, false, api.ErrOffset, all},
		{0, 7, 9, false, api.ErrOffset, all},
		{3, 2, 9, false, api.ErrOffset, all},
		{7, 7, 9, false, api.ErrOffset, all},
		{minInt, maxInt, 9, false, api.ErrOffset, all},
		{-1, 2, 32, false, api.ErrOffset, all},
		{0, 7, -1, false, api.ErrOffset, all},
		{3, 2, 32, false, api.ErrOffset, all},
	}
	for _, test := range tests {
		l := three(t)
		changed, err := l.Set(test.from, test.to, test.s)
		if changed != test.changed || err != test.err {
			t.Errorf("Set(%d, %d, %d): %v, %d, want %v, %d", test.from, test.to, test.s, changed, err, test.changed, test.err)
		}
		wantRuns(t, l, test.want...)
	}
}

// P5.3.
func TestLay(t *testing.T) {
	all := []api.Run{{Len: 2, Style: 4}, {Len: 1, Style: 0}, {Len: 3, Style: 31}}
	tests := []struct {
		at   int
		list []api.Run
		err  api.Errno
		want []api.Run
	}{
		{0, nil, api.OK, all},
		{6, []api.Run{}, api.OK, all},
		{0, []api.Run{{Len: 6, Style: 1}}, api.OK, []api.Run{{Len: 6, Style: 1}}},
		{1, []api.Run{{Len: 1, Style: 1}, {Len: 2, Style: 2}}, api.OK, []api.Run{{Len: 1, Style: 4}, {Len: 1, Style: 1}, {Len: 2, Style: 2}, {Len: 2, Style: 31}}},
		{1, []api.Run{{Len: 1, Style: 1}, {Len: 0, Style: 9}, {Len: 2, Style: 1}}, api.OK, []api.Run{{Len: 1, Style: 4}, {Len: 3, Style: 1}, {Len: 2, Style: 31}}},
		{2, []api.Run{{Len: 1, Style: 4}, {Len: 1, Style: 31}}, api.OK, []api.Run{{Len: 3, Style: 4}, {Len: 3, Style: 31}}},
		{3, []api.Run{{Len: 1, Style: 5}, {Len: 2, Style: 6}}, api.OK, []api.Run{{Len: 2, Style: 4}, {Len: 1, Style: 0}, {Len: 1, Style: 5}, {Len: 2, Style: 6}}},
		{6, []api.Run{{Len: 0, Style: 31}, {Len: 0, Style: 0}}, api.OK, all},
		{-1, nil, api.ErrOffset, all},
		{7, nil, api.ErrOffset, all},
		{minInt, nil, api.ErrOffset, all},
		{maxInt, []api.Run{{Len: 1, Style: 1}}, api.ErrOffset, all},
		{-1, []api.Run{{Len: -1, Style: 32}}, api.ErrOffset, all},
		{7, []api.Run{{Len: 1, Style: 32}}, api.ErrOffset, all},
		{0, []api.Run{{Len: -1, Style: 1}}, api.ErrRange, all},
		{0, []api.Run{{Len: minInt, Style: 1}}, api.ErrRange, all},
		{0, []api.Run{{Len: -1, Style: 32}}, api.ErrRange, all},
		{0, []api.Run{{Len: 1, Style: 32}}, api.ErrStyle, all},
		{0, []api.Run{{Len: 1, Style: -1}}, api.ErrStyle, all},
		{0, []api.Run{{Len: 0, Style: 32}}, api.ErrStyle, all},
		{0, []api.Run{{Len: 7, Style: 32}}, api.ErrStyle, all},
		{0, []api.Run{{Len: 7, Style: 1}}, api.ErrOffset, all},
		{3, []api.Run{{Len: 2, Style: 1}, {Len: 2, Style: 2}}, api.ErrOffset, all},
		{6, []api.Run{{Len: 1, Style: 1}}, api.ErrOffset, all},
		{0, []api.Run{{Len: 1, Style: 1}, {Len: maxInt, Style: 2}}, api.ErrOffset, all},
		// The first run with a fault tells which.
		{0, []api.Run{{Len: 7, Style: 1}, {Len: -1, Style: 1}}, api.ErrOffset, all},
		{0, []api.Run{{Len: 7, Style: 1}, {Len: 1, Style: 32}}, api.ErrOffset, all},
		{0, []api.Run{{Len: 1, Style: 32}, {Len: -1, Style: 1}}, api.ErrStyle, all},
		{0, []api.Run{{Len: 1, Style: 32}, {Len: 7, Style: 1}}, api.ErrStyle, all},
		{0, []api.Run{{Len: -1, Style: 1}, {Len: 1, Style: 32}}, api.ErrRange, all},
		{0, []api.Run{{Len: 1, Style: 1}, {Len: -1, Style: 32}}, api.ErrRange, all},
		{0, []api.Run{{Len: 1, Style: 1}, {Len: 0, Style: 32}, {Len: 9, Style: 1}}, api.ErrStyle, all},
	}
	for _, test := range tests {
		l := three(t)
		list := slices.Clone(test.list)
		if err := l.Lay(test.at, list); err != test.err {
			t.Errorf("Lay(%d, %v): %d, want %d", test.at, test.list, err, test.err)
		}
		wantRuns(t, l, test.want...)
		if !slices.Equal(list, test.list) {
			t.Errorf("Lay(%d, %v) made %v of its list", test.at, test.list, list)
		}
	}
}

// P2 and P5.2: a call that is refused leaves also what Near tells without bytes.
func TestRefusedLeavesNear(t *testing.T) {
	l := made(t, api.Run{Len: 1, Style: 7}, api.Run{Len: 1, Style: 8})
	l.Delete(0, 2)
	l.Delete(0, 1)
	l.Delete(-1, 0)
	l.Insert(0, -1)
	l.Insert(0, 65537)
	l.Insert(1, 1)
	l.Set(0, 0, 32)
	l.Set(0, 1, 3)
	l.Lay(0, []api.Run{{Len: 1, Style: 3}})
	l.Lay(0, []api.Run{{Len: 0, Style: 32}})
	wantRuns(t, l)
	wantNear(t, l, 0, 7, api.OK)
}

// P5.5, of a list without bytes too.
func TestInsertedAndDeleted(t *testing.T) {
	for _, l := range []*List{three(t), made(t), made(t, api.Run{Len: 1, Style: 9})} {
		before := l.Runs()
		near, _ := l.Near(0)
		for at := 0; at <= l.Len(); at++ {
			for _, n := range []int{0, 1, 2, 65536 - l.Len()} {
				if err := l.Insert(at, n); err != api.OK {
					t.Fatalf("Insert(%d, %d): %d", at, n, err)
				}
				if err := l.Delete(at, at+n); err != api.OK {
					t.Fatalf("Delete(%d, %d): %d", at, at+n, err)
				}
				wantRuns(t, l, before...)
				wantNear(t, l, 0, near, api.OK)
			}
		}
	}
}

// P5.5.
func TestSlicedAndLaid(t *testing.T) {
	l := three(t)
	before := l.Runs()
	for from := 0; from <= l.Len(); from++ {
		for to := from; to <= l.Len(); to++ {
			list, err := l.Slice(from, to)
			if err != api.OK {
				t.Fatalf("Slice(%d, %d): %d", from, to, err)
			}
			if err := l.Lay(from, list); err != api.OK {
				t.Fatalf("Lay(%d, %v): %d", from, list, err)
			}
			wantRuns(t, l, before...)
		}
	}
}

// As many runs as there may be bytes.
func TestManyRuns(t *testing.T) {
	l, _ := New(65536, 0)
	list := make([]api.Run, 65536)
	for i := range list {
		list[i] = api.Run{Len: 1, Style: i % 32}
	}
	if err := l.Lay(0, list); err != api.OK {
		t.Fatalf("Lay: %d", err)
	}
	if l.Count() != 65536 || l.Most() != 31 || !slices.Equal(l.Runs(), list) {
		t.Errorf("65536 runs: Count %d, Most %d", l.Count(), l.Most())
	}
	for at := range list {
		if s, ok := l.At(at); s != at%32 || !ok {
			t.Fatalf("At(%d): %d, %v", at, s, ok)
		}
	}
	if changed, err := l.Set(1, 65535, 0); !changed || err != api.OK {
		t.Errorf("Set: %v, %d", changed, err)
	}
	wantRuns(t, l, api.Run{Len: 65535, Style: 0}, api.Run{Len: 1, Style: 31})
}

package runs

import (
	"slices"
	"testing"

	"reglet/api"
)

// P5.1.
func TestNew(t *testing.T) {
	tests := []struct {
		n, s int
		err  api.Errno
	}{
		{0, 0, api.OK},
		{1, 0, api.OK},
		{7, 5, api.OK},
		{7, 31, api.OK},
		{65536, 31, api.OK},
		{65537, 0, api.ErrRange},
		{maxInt, 0, api.ErrRange},
		{-1, 0, api.ErrRange},
		{minInt, 0, api.ErrRange},
		{1, 32, api.ErrStyle},
		{1, -1, api.ErrStyle},
		{0, 32, api.ErrStyle},
		{0, -1, api.ErrStyle},
		{1, maxInt, api.ErrStyle},
		{1, minInt, api.ErrStyle},
		{-1, 32, api.ErrRange},
		{-1, -1, api.ErrRange},
		{65537, 32, api.ErrRange},
		{65537, -1, api.ErrRange},
	}
	for _, test := range tests {
		l, err := New(test.n, test.s)
		if err != test.err || (l == nil) != (err != api.OK) {
			t.Errorf("New(%d, %d): %v, %d, want %d", test.n, test.s, l, err, test.err)
			continue
		}
		if err != api.OK {
			continue
		}
		var want []api.Run
		if test.n > 0 {
			want = []api.Run{{Len: test.n, Style: test.s}}
		}
		wantRuns(t, l, want...)
		if l.Len() != test.n || l.Count() != len(want) {
			t.Errorf("New(%d, %d): Len %d, Count %d", test.n, test.s, l.Len(), l.Count())
		}
	}
}

// P5.1.
func TestAt(t *testing.T) {
	l := made(t, api.Run{Len: 2, Style: 4}, api.Run{Len: 1, Style: 0}, api.Run{Len: 3, Style: 31})
	for at, want := range []int{4, 4, 0, 31, 31, 31} {
		if s, ok := l.At(at); s != want || !ok {
			t.Errorf("At(%d): %d, %v, want %d", at, s, ok, want)
		}
	}
	for _, at := range []int{minInt, -2, -1, 6, 7, maxInt} {
		if s, ok := l.At(at); s != 0 || ok {
			t.Errorf("At(%d): %d, %v, want 0, false", at, s, ok)
		}
	}
	none, _ := New(0, 7)
	for _, at := range []int{-1, 0, 1} {
		if s, ok := none.At(at); s != 0 || ok {
			t.Errorf("At(%d) of no bytes: %d, %v", at, s, ok)
		}
	}
}

// P5.1.
func TestMost(t *testing.T) {
	l := made(t, api.Run{Len: 1, Style: 2}, api.Run{Len: 1, Style: 9}, api.Run{Len: 1, Style: 3})
	if l.Most() != 9 {
		t.Errorf("Most: %d, want 9", l.Most())
	}
	l.Delete(1, 2)
	if l.Most() != 3 {
		t.Errorf("Most without the greatest: %d, want 3", l.Most())
	}
	l.Set(0, 2, 0)
	if l.Most() != 0 {
		t.Errorf("Most of style 0: %d, want 0", l.Most())
	}
	l.Delete(0, 2)
	if l.Most() != -1 {
		t.Errorf("Most of bytes that went: %d, want -1", l.Most())
	}
	none, _ := New(0, 5)
	if none.Most() != -1 {
		t.Errorf("Most of no bytes: %d, want -1", none.Most())
	}
}

func wantNear(t *testing.T, l *List, at, style int, err api.Errno) {
	t.Helper()
	if s, e := l.Near(at); s != style || e != err {
		t.Errorf("Near(%d) of %v: %d, %d, want %d, %d", at, l.Runs(), s, e, style, err)
	}
}

// P5.2.
func TestNear(t *testing.T) {
	l := made(t, api.Run{Len: 2, Style: 4}, api.Run{Len: 1, Style: 0}, api.Run{Len: 3, Style: 31})
	for at, want := range []int{4, 4, 4, 0, 31, 31, 31} {
		wantNear(t, l, at, want, api.OK)
	}
	for _, at := range []int{minInt, -1, 7, maxInt} {
		wantNear(t, l, at, 0, api.ErrOffset)
	}
}

// P5.2: of a list that never had a byte ahead of a Delete.
func TestNearNeverAny(t *testing.T) {
	l, _ := New(0, 6)
	wantNear(t, l, 0, 6, api.OK)
	wantNear(t, l, -1, 0, api.ErrOffset)
	wantNear(t, l, 1, 0, api.ErrOffset)
	l.Delete(0, 0)
	wantNear(t, l, 0, 6, api.OK)
	l.Lay(0, []api.Run{{Len: 0, Style: 3}})
	l.Set(0, 0, 4)
	l.Insert(0, 0)
	wantNear(t, l, 0, 6, api.OK)
	l.Insert(0, 2)
	wantRuns(t, l, api.Run{Len: 2, Style: 6})
}

// P5.2: of a list that had bytes ahead of a Delete: the first one's style just then.
func TestNearHadSome(t *testing.T) {
	l, _ := New(3, 6)
	l.Set(0, 1, 2)
	l.Set(2, 3, 9)
	if err := l.Delete(0, 3); err != api.OK {
		t.Fatalf("Delete: %d", err)
	}
	wantNear(t, l, 0, 2, api.OK)
	l.Delete(0, 0)
	wantNear(t, l, 0, 2, api.OK)
	if err := l.Delete(0, 1); err != api.ErrOffset {
		t.Errorf("Delete of no bytes' first: %d", err)
	}
	wantNear(t, l, 0, 2, api.OK)
	wantNear(t, l.Copy(), 0, 2, api.OK)

	l.Insert(0, 2)
	wantRuns(t, l, api.Run{Len: 2, Style: 2})
	l.Set(0, 2, 5)
	l.Delete(0, 2)
	wantNear(t, l, 0, 5, api.OK)
}

// P5.2: bytes that go one by one: the last one's style, not that of those which went ahead of it.
func TestNearOneByOne(t *testing.T) {
	l := made(t, api.Run{Len: 1, Style: 7}, api.Run{Len: 1, Style: 8})
	l.Delete(0, 1)
	wantNear(t, l, 0, 8, api.OK)
	l.Delete(0, 1)
	wantNear(t, l, 0, 8, api.OK)
	k := made(t, api.Run{Len: 1, Style: 7}, api.Run{Len: 1, Style: 8})
	k.Delete(1, 2)
	k.Delete(0, 1)
	wantNear(t, k, 0, 7, api.OK)
}

// P5.3.
func TestSlice(t *testing.T) {
	l := made(t, api.Run{Len: 2, Style: 4}, api.Run{Len: 1, Style: 0}, api.Run{Len: 3, Style: 31})
	tests := []struct {
		from, to int
		want     []api.Run
		err      api.Errno
	}{
		{0, 6, []api.Run{{Len: 2, Style: 4}, {Len: 1, Style: 0}, {Len: 3, Style: 31}}, api.OK},
		{0, 2, []api.Run{{Len: 2, Style: 4}}, api.OK},
		{1, 2, []api.Run{{Len: 1, Style: 4}}, api.OK},
		{1, 4, []api.Run{{Len: 1, Style: 4}, {Len: 1, Style: 0}, {Len: 1, Style: 31}}, api.OK},
		{3, 6, []api.Run{{Len: 3, Style: 31}}, api.OK},
		{4, 5, []api.Run{{Len: 1, Style: 31}}, api.OK},
		{0, 0, nil, api.OK},
		{2, 2, nil, api.OK},
		{6, 6, nil, api.OK},
		{-1, 2, nil, api.ErrOffset},
		{minInt, maxInt, nil, api.ErrOffset},
		{0, 7, nil, api.ErrOffset},
		{7, 7, nil, api.ErrOffset},
		{-1, -1, nil, api.ErrOffset},
		{3, 2, nil, api.ErrOffset},
		{maxInt, minInt, nil, api.ErrOffset},
	}
	for _, test := range tests {
		got, err := l.Slice(test.from, test.to)
		if !slices.Equal(got, test.want) || err != test.err {
			t.Errorf("Slice(%d, %d): %v, %d, want %v, %d", test.from, test.to, got, err, test.want, test.err)
		}
	}
	none, _ := New(0, 3)
	if got, err := none.Slice(0, 0); len(got) != 0 || err != api.OK {
		t.Errorf("Slice of no bytes: %v, %d", got, err)
	}
}

// P5.4.
func TestEach(t *testing.T) {
	l := made(t, api.Run{Len: 2, Style: 4}, api.Run{Len: 1, Style: 0}, api.Run{Len: 3, Style: 31})
	type told struct {
		at  int
		run api.Run
	}
	all := []told{{0, api.Run{Len: 2, Style: 4}}, {2, api.Run{Len: 1, Style: 0}}, {3, api.Run{Len: 3, Style: 31}}}
	each := l.Each()
	for stop := range len(all) + 1 {
		var got []told
		for at, run := range each {
			if len(got) == stop {
				break
			}
			got = append(got, told{at, run})
		}
		if !slices.Equal(got, all[:stop]) {
			t.Errorf("Each, stopped behind %d: %v", stop, got)
		}
	}
	none, _ := New(0, 3)
	for at, run := range none.Each() {
		t.Errorf("Each of no bytes: %v at %d", run, at)
	}
}

// P5.4: told to stop, it gives out no more, whatever stands behind.
func TestEachStops(t *testing.T) {
	l := made(t, api.Run{Len: 2, Style: 4}, api.Run{Len: 1, Style: 0}, api.Run{Len: 3, Style: 31})
	for stop := 1; stop <= 3; stop++ {
		calls := 0
		l.Each()(func(int, api.Run) bool {
			calls++
			return calls < stop
		})
		if calls != stop {
			t.Errorf("Each, told to stop at run %d: %d given out", stop, calls)
		}
	}
}

// What Each answered tells the list as it stood, also if it is edited meanwhile.
func TestEachWhileEdited(t *testing.T) {
	l := made(t, api.Run{Len: 2, Style: 4}, api.Run{Len: 2, Style: 0}, api.Run{Len: 2, Style: 31})
	before := l.Runs()
	each := l.Each()
	for range 2 {
		var got []api.Run
		for _, run := range each {
			got = append(got, run)
			l.Set(0, l.Len(), 9)
			l.Insert(0, 3)
			l.Delete(0, 4)
		}
		if !slices.Equal(got, before) {
			t.Errorf("Each of an edited list: %v, want %v", got, before)
		}
	}
}

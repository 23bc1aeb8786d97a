package cache

import (
	"math/rand/v2"
	"slices"
	"strconv"
	"testing"

	"reglet/api"
	"reglet/runs"
)

// full: a key in which no two numbers are alike.
func full() Key {
	return Key{
		Text: "aa bb\n", Runs: cut(2, 1, 4, 2), Table: 3, Width: 4,
		Set: api.Settings{Tolerance: 5, Line: 6, Adjacent: 7, Double: 8, Last: 9, Orphans: 10, Widows: 11},
	}
}

// others: full with just one thing changed, each in turn.
func others() map[string]Key {
	out := map[string]Key{}
	change := func(name string, f func(k *Key)) {
		k := full()
		f(&k)
		out[name] = k
	}
	change("another text", func(k *Key) { k.Text = "aa cc\n" })
	change("a shorter text", func(k *Key) { k.Text = "aa bb" })
	change("a longer text", func(k *Key) { k.Text = "aa bb\n\x00" })
	change("no text", func(k *Key) { k.Text = "" })
	change("a wrong text", func(k *Key) { k.Text = "aa bb\xff" })
	change("another style", func(k *Key) { k.Runs = cut(2, 1, 4, 3) })
	change("styles turned round", func(k *Key) { k.Runs = cut(4, 2, 2, 1) })
	change("a style from elsewhere on", func(k *Key) { k.Runs = cut(3, 1, 3, 2) })
	change("fewer bytes of styles", func(k *Key) { k.Runs = cut(2, 1, 3, 2) })
	change("more bytes of styles", func(k *Key) { k.Runs = cut(2, 1, 4, 2, 1, 1) })
	change("one style", func(k *Key) { k.Runs = cut(6, 1) })
	change("no runs", func(k *Key) { k.Runs = nil })
	for i := range 9 {
		more := *fields(new(full()))[i] + 1
		for _, n := range []int{0, -1, 1, minInt, maxInt, more} {
			change("number "+strconv.Itoa(i)+" is "+strconv.Itoa(n), func(k *Key) { *fields(k)[i] = n })
		}
	}
	return out
}

// fields: where the numbers of a key stand.
func fields(k *Key) [9]*int {
	s := &k.Set
	return [9]*int{&k.Table, &k.Width, &s.Tolerance, &s.Line, &s.Adjacent, &s.Double, &s.Last, &s.Orphans, &s.Widows}
}

// P11.3: keys that differ in one thing alone aren't alike, and are kept apart.
func TestOneFieldDiffers(t *testing.T) {
	for name, k := range others() {
		for _, pair := range [][2]Key{{full(), k}, {k, full()}} {
			if Alike(pair[0], pair[1]) {
				t.Errorf("%s: alike", name)
			}
			c := made[int](t, 4)
			c.Put(pair[0], 1)
			wantGet(t, c, pair[1], 0, false)
			c.Put(pair[1], 2)
			wantGet(t, c, pair[0], 1, true)
			wantGet(t, c, pair[1], 2, true)
			wantKeys(t, c, pair[1], pair[0])
		}
		if !Alike(k, k) || Hash(k) != Hash(own(k)) {
			t.Errorf("%s: unlike itself", name)
		}
	}
}

// P11.3: keys that differ in several things aren't alike, also where one could be taken for another when all stands side by side.
func TestSeveralDiffer(t *testing.T) {
	tests := [][2]Key{
		{{Text: "a"}, {Runs: cut(1, 'a')}},
		{{Text: "ab", Runs: cut(1, 0)}, {Text: "a", Runs: cut(1, 'b', 1, 0)}},
		{{Table: 1}, {Width: 1}},
		{{Table: 1, Width: 2}, {Table: 2, Width: 1}},
		{{Width: 1}, {Set: api.Settings{Tolerance: 1}}},
		{{Set: api.Settings{Line: 1}}, {Set: api.Settings{Adjacent: 1}}},
		{{Set: api.Settings{Double: 1, Last: 2}}, {Set: api.Settings{Double: 2, Last: 1}}},
		{{Set: api.Settings{Orphans: 2, Widows: 3}}, {Set: api.Settings{Orphans: 3, Widows: 2}}},
		{{Runs: cut(1, 0)}, {}},
		{{Runs: cut(0, 1, 2, 0)}, {Runs: cut(2, 1)}},
	}
	for _, test := range tests {
		if Alike(test[0], test[1]) || Alike(test[1], test[0]) {
			t.Errorf("%+v and %+v are alike", test[0], test[1])
		}
	}
}

// cuts: runs that all tell the same, row by row.
func cuts() [][][]api.Run {
	return [][][]api.Run{
		{nil, {}, cut(0, 3), cut(0, 0, 0, 1), cut(-1, 2), cut(minInt, 7, 0, 7, -1, 7)},
		{cut(4, 2), cut(1, 2, 3, 2), cut(2, 2, 2, 2), cut(1, 2, 1, 2, 1, 2, 1, 2), cut(0, 2, 4, 2), cut(4, 2, 0, 9), cut(2, 2, 0, 1, 2, 2), cut(0, 5, 3, 2, -8, 6, 1, 2, minInt, 2)},
		{cut(2, 1, 4, 2), cut(1, 1, 1, 1, 4, 2), cut(2, 1, 1, 2, 3, 2), cut(2, 1, 0, 1, 0, 2, 4, 2), cut(0, 2, 2, 1, 0, 3, 4, 2, 0, 1), cut(1, 1, 0, 2, 1, 1, 2, 2, -1, 1, 2, 2)},
		{cut(2, 2, 4, 1), cut(1, 2, 1, 2, 4, 1)},
		{cut(1, 0, 1, 1, 1, 0), cut(1, 0, 0, 0, 1, 1, 0, 1, 1, 0)},
		{cut(1, -1), cut(0, 0, 1, -1), cut(1, -1, -1, 1)},
		{cut(1, minInt), cut(1, minInt, 0, maxInt)},
		// More bytes than a number can count.
		{cut(maxInt, 1, maxInt, 1), cut(1, 1, maxInt, 1, maxInt-1, 1), cut(maxInt-1, 1, 0, 2, maxInt, 1, 1, 1)},
		{cut(maxInt, 1, maxInt, 1, 2, 1, 1, 2), cut(2, 1, maxInt, 1, maxInt, 1, 1, 2), cut(maxInt, 1, 1, 1, maxInt, 1, 1, 1, 1, 2)},
		{cut(maxInt, 1, maxInt, 1, 2, 1), cut(1, 1, maxInt, 1, 1, 1, maxInt, 1)},
		{cut(1, 2)},
	}
}

// P11.3: runs that are cut otherwise but tell the same make keys alike, with one Hash; others don't.
func TestCutOtherwise(t *testing.T) {
	for i, row := range cuts() {
		for j, other := range cuts() {
			for _, a := range row {
				for _, b := range other {
					x, y := full(), full()
					x.Runs, y.Runs = a, b
					if got := Alike(x, y); got != (i == j) || got != runs.Same(a, b) {
						t.Errorf("Alike of %v and %v: %v", a, b, got)
					}
					if i == j && Hash(x) != Hash(y) {
						t.Errorf("%v and %v: %d and %d", a, b, Hash(x), Hash(y))
					}
				}
			}
		}
	}
}

// P11.1 to P11.3: a value is found by every key alike, and Keys has the one that was put first.
func TestFoundByAllCuts(t *testing.T) {
	for _, row := range cuts() {
		for _, first := range row {
			c := made[int](t, 3)
			k := full()
			k.Runs = first
			c.Put(k, 7)
			for n, list := range row {
				other := full()
				other.Runs = list
				wantGet(t, c, other, 7+n, true)
				c.Put(other, 8+n)
				wantGet(t, c, k, 8+n, true)
				wantKeys(t, c, k)
			}
		}
	}
}

// drawnKey: of few numbers, so that many are alike.
func drawnKey(r *rand.Rand) Key {
	k := Key{Text: []string{"", "a", "b", "ab"}[r.IntN(4)]}
	for range r.IntN(4) {
		k.Runs = append(k.Runs, api.Run{Len: r.IntN(4) - 1, Style: r.IntN(2)})
	}
	*fields(&k)[r.IntN(9)] = r.IntN(2)
	return k
}

// P11.3: drawn keys, their runs byte by byte.
func TestDrawnAlike(t *testing.T) {
	r := rand.New(rand.NewPCG(11, 3))
	alike := 0
	for range 100000 {
		a, b := drawnKey(r), drawnKey(r)
		want := plainAlike(a, b)
		if got := Alike(a, b); got != want {
			t.Fatalf("Alike(%+v, %+v): %v", a, b, got)
		}
		if want {
			alike++
			if Hash(a) != Hash(b) {
				t.Fatalf("%+v: %d, %+v: %d", a, Hash(a), b, Hash(b))
			}
		}
	}
	if alike < 1000 {
		t.Errorf("only %d of the drawn keys were alike", alike)
	}
}

// Rule 4: a Hash hangs on the key alone: not on where it stands, nor on spare room.
func TestHashOfACopy(t *testing.T) {
	for name, k := range others() {
		room := own(k)
		room.Runs = append(slices.Grow(room.Runs, 9), cut(7, 7)...)[:len(k.Runs)]
		if Hash(k) != Hash(k) || Hash(k) != Hash(room) || !Alike(k, room) {
			t.Errorf("%s: another Hash", name)
		}
	}
}

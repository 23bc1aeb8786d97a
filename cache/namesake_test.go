package cache

import (
	"testing"

	"reglet/api"
)

// unmix: what was mixed in, with what was there, when mix came to h.
func unmix(h uint64) uint64 {
	back := uint64(factor)
	for range 6 { // each time twice as many of the low bits are right
		back *= 2 - factor*back
	}
	return (h ^ h>>32) * back
}

// namesake: k with the Widows with which it has another key's Hash. (Widows are what is mixed in last.)
func namesake(k, other Key) Key {
	k.Set.Widows ^= int(unmix(Hash(k)) ^ unmix(Hash(other)))
	return k
}

// family: unlike keys with one Hash: one and another text, more runs and none, other numbers.
func family(t *testing.T) []Key {
	t.Helper()
	list := []Key{full()}
	k := full()
	k.Text = "another"
	list = append(list, namesake(k, list[0]))
	k = full()
	k.Runs = cut(1, 1, 5, 2)
	list = append(list, namesake(k, list[0]), namesake(Key{}, list[0]))
	for i := range 8 {
		k := full()
		*fields(&k)[i] = 99
		list = append(list, namesake(k, list[0]))
	}
	for i, a := range list {
		for j, b := range list {
			if Hash(a) != Hash(b) || Alike(a, b) != (i == j) {
				t.Fatalf("%+v and %+v: Hash %d and %d, Alike %v", a, b, Hash(a), Hash(b), Alike(a, b))
			}
		}
	}
	return list
}

// P11.3: unlike keys with one Hash are kept apart.
func TestNamesakesApart(t *testing.T) {
	list := family(t)
	c := made[int](t, len(list))
	for n, k := range list {
		wantGet(t, c, k, 0, false)
		c.Put(k, n+1)
		wantSound(t, c)
		for m, other := range list[:n+1] {
			wantGet(t, c, other, m+1, true)
		}
	}
	for n, k := range list {
		c.Put(k, n+101)
	}
	for n, k := range list {
		wantGet(t, c, k, n+101, true)
	}
	if c.Len() != len(list) {
		t.Errorf("Len %d, want %d", c.Len(), len(list))
	}
}

// P11.2, P11.3: of namesakes just the one at the end goes, wherever it stands among them.
func TestNamesakesGo(t *testing.T) {
	list := family(t)
	for first := range list {
		c := made[int](t, len(list))
		for n, k := range list {
			c.Put(k, n)
		}
		for n, k := range list { // all but first come ahead of it
			if n != first {
				wantGet(t, c, k, n, true)
			}
		}
		c.Put(text("no namesake"), 77)
		wantSound(t, c)
		wantGet(t, c, list[first], 0, false)
		for n, k := range list {
			if n != first {
				wantGet(t, c, k, n, true)
			}
		}
		c.Put(list[first], 88)
		wantGet(t, c, text("no namesake"), 0, false)
		wantGet(t, c, list[first], 88, true)
		wantSound(t, c)
	}
}

// P11.2, P11.3: with less room than namesakes, down to one.
func TestNamesakesInTurn(t *testing.T) {
	list := family(t)
	for _, room := range []int{1, 2, 5} {
		c := made[int](t, room)
		for turn := range 3 {
			for n, k := range list {
				c.Put(k, turn*100+n)
				wantGet(t, c, k, turn*100+n, true)
				wantGet(t, c, list[(n+1)%len(list)], 0, false)
				wantSound(t, c)
			}
		}
		c.Clear()
		for _, k := range list {
			wantGet(t, c, k, 0, false)
		}
	}
}

// P11.3: runs that are cut otherwise are found among namesakes.
func TestNamesakesCutOtherwise(t *testing.T) {
	list := family(t)
	c := made[int](t, len(list))
	for n, k := range list {
		c.Put(k, n)
	}
	for n, k := range list {
		k.Runs = append([]api.Run{{Len: 0, Style: 9}, {Len: -3, Style: 1}}, k.Runs...)
		wantGet(t, c, k, n, true)
		c.Put(k, n+50)
		wantGet(t, c, list[n], n+50, true)
	}
	if c.Len() != len(list) {
		t.Errorf("Len %d, want %d", c.Len(), len(list))
	}
}

package cache

import (
	"math"
	"slices"
	"testing"

	"reglet/api"
	"reglet/measure"
)

const (
	minInt = math.MinInt
	maxInt = math.MaxInt
)

// made: a cache with room that may be.
func made[V any](t testing.TB, room int) *Cache[V] {
	t.Helper()
	c, e := New[V](room)
	if e != api.OK || c == nil {
		t.Fatalf("New(%d): %v, %d", room, c, e)
	}
	return c
}

// cut: runs of pairs of numbers, how many bytes and which style.
func cut(pairs ...int) []api.Run {
	list := []api.Run{}
	for pair := range slices.Chunk(pairs, 2) {
		list = append(list, api.Run{Len: pair[0], Style: pair[1]})
	}
	return list
}

// text: a key of a text in one style, as an editor would ask for it.
func text(s string) Key {
	return Key{Text: s, Runs: cut(len(s), 0), Width: 60, Set: measure.Usual()}
}

// styled: the key with other runs.
func styled(k Key, pairs ...int) Key {
	k.Runs = cut(pairs...)
	return k
}

// spelt: the style of each byte that runs tell.
func spelt(list []api.Run) []int {
	var styles []int
	for _, run := range list {
		styles = append(styles, slices.Repeat([]int{run.Style}, max(run.Len, 0))...)
	}
	return styles
}

// numbers: all of a key but its text and its runs.
func numbers(k Key) [9]int {
	s := k.Set
	return [9]int{k.Table, k.Width, s.Tolerance, s.Line, s.Adjacent, s.Double, s.Last, s.Orphans, s.Widows}
}

// plainAlike: are keys with short runs alike, held against each other byte by byte?
func plainAlike(a, b Key) bool {
	return a.Text == b.Text && numbers(a) == numbers(b) && slices.Equal(spelt(a.Runs), spelt(b.Runs))
}

// toTheLetter: is it the same key, its runs cut as the other's?
func toTheLetter(a, b Key) bool {
	return numbers(a) == numbers(b) && a.Text == b.Text && slices.Equal(a.Runs, b.Runs)
}

// kept is a key with its value.
type kept struct {
	key   Key
	value int
}

// plain is a cache as a list from the front to the end.
type plain struct {
	room, found, missed int
	list                []kept
}

func (p *plain) at(k Key) int {
	return slices.IndexFunc(p.list, func(x kept) bool { return plainAlike(x.key, k) })
}

func (p *plain) toFront(at int) {
	x := p.list[at]
	p.list = slices.Insert(slices.Delete(p.list, at, at+1), 0, x)
}

func (p *plain) get(k Key) (int, bool) {
	at := p.at(k)
	if at < 0 {
		p.missed++
		return 0, false
	}
	p.found++
	p.toFront(at)
	return p.list[0].value, true
}

func (p *plain) put(k Key, v int) {
	if p.room == 0 {
		return
	}
	if at := p.at(k); at >= 0 {
		p.list[at].value = v
		p.toFront(at)
		return
	}
	if len(p.list) == p.room {
		p.list = p.list[:len(p.list)-1]
	}
	k.Runs = slices.Clone(k.Runs)
	p.list = slices.Insert(p.list, 0, kept{k, v})
}

// agree holds all that a cache tells and has against the plain list.
func (p *plain) agree(t *testing.T, c *Cache[int]) {
	t.Helper()
	if c.Len() != len(p.list) || c.Room() != p.room {
		t.Fatalf("Len %d, Room %d, want %d, %d", c.Len(), c.Room(), len(p.list), p.room)
	}
	if c.Len() > c.Room() {
		t.Fatalf("%d are there, and there is room for %d", c.Len(), c.Room())
	}
	wantAsked(t, c, p.found, p.missed)
	var want []Key
	for _, x := range p.list {
		want = append(want, x.key)
	}
	wantKeys(t, c, want...)
	wantSound(t, c)
	e := c.front
	for n, x := range p.list { // a Get would change their places
		if e.value != x.value {
			t.Fatalf("the value %d from the front is %d, want %d", n, e.value, x.value)
		}
		e = e.behind
	}
}

func wantAsked[V any](t *testing.T, c *Cache[V], found, missed int) {
	t.Helper()
	if f, m := c.Asked(); f != found || m != missed {
		t.Errorf("Asked: %d, %d, want %d, %d", f, m, found, missed)
	}
}

// wantKeys: these, to the letter, from the front to the end.
func wantKeys[V any](t *testing.T, c *Cache[V], want ...Key) {
	t.Helper()
	if got := c.Keys(); !slices.EqualFunc(got, want, toTheLetter) || c.Len() != len(want) {
		t.Fatalf("Keys: %+v (Len %d), want %+v", got, c.Len(), want)
	}
}

// wantGet: what a Get answers.
func wantGet[V comparable](t *testing.T, c *Cache[V], k Key, want V, there bool) {
	t.Helper()
	if v, ok := c.Get(k); v != want || ok != there {
		t.Errorf("Get(%+v): %v, %v, want %v, %v", k, v, ok, want, there)
	}
}

// wantSound: the buckets have what the row has, and nothing of what went is kept.
func wantSound[V any](t *testing.T, c *Cache[V]) {
	t.Helper()
	many := 0
	for h, bucket := range c.buckets {
		many += len(bucket)
		if len(bucket) == 0 {
			t.Fatalf("the bucket %d is empty", h)
		}
		for _, e := range bucket[len(bucket):cap(bucket)] {
			if e != nil {
				t.Fatalf("the bucket %d keeps %+v, which went", h, e.key)
			}
		}
	}
	row := 0
	var ahead *entry[V]
	for e := c.front; e != nil; ahead, e = e, e.behind {
		row++
		if e.ahead != ahead || !slices.Contains(c.buckets[e.hash], e) || e.hash != Hash(e.key) {
			t.Fatalf("%+v stands in no bucket, or in no row", e.key)
		}
	}
	if c.end != ahead || row != many || row != c.count {
		t.Fatalf("%d in the row, %d in the buckets, %d told", row, many, c.count)
	}
}

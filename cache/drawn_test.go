package cache

import (
	"math/rand/v2"
	"strconv"
	"testing"

	"reglet/api"
)

// recut: the runs cut in other places, with empty ones among them.
func recut(r *rand.Rand, list []api.Run) []api.Run {
	var out []api.Run
	for _, run := range list {
		if r.IntN(3) == 0 {
			out = append(out, api.Run{Len: -r.IntN(2), Style: r.IntN(3)})
		}
		for run.Len > 1 && r.IntN(2) == 0 {
			n := 1 + r.IntN(run.Len-1)
			out = append(out, api.Run{Len: n, Style: run.Style})
			run.Len -= n
		}
		out = append(out, run)
	}
	return out
}

// pool: so many keys, some of them alike.
func pool(r *rand.Rand, many int) []Key {
	list := make([]Key, many)
	for i := range list {
		list[i] = drawnKey(r)
	}
	return list
}

// step does one drawn call on both and holds what they answer against each other.
func step(t *testing.T, r *rand.Rand, c *Cache[int], p *plain, from []Key, value int) {
	t.Helper()
	k := from[r.IntN(len(from))]
	k.Runs = recut(r, k.Runs)
	switch n := r.IntN(100); {
	case n < 50:
		want, there := p.get(k)
		wantGet(t, c, k, want, there)
	case n < 99:
		p.put(k, value)
		c.Put(k, value)
	default:
		p.list = nil
		c.Clear()
	}
}

// walk does many drawn calls on a new cache and a plain list.
func walk(t *testing.T, r *rand.Rand, room int, from []Key) {
	t.Helper()
	c, p := made[int](t, room), &plain{room: room}
	for value := range 300 {
		step(t, r, c, p, from, value)
		p.agree(t, c)
	}
}

// P11.1, P11.2, P11.4, P11.5: many calls in drawn orders against a plain list, in which keys are held against each other byte by byte.
func TestDrawnCalls(t *testing.T) {
	r := rand.New(rand.NewPCG(11, 1))
	for _, room := range []int{0, 1, 2, 3, 4, 7, 20} {
		for range 30 {
			from := pool(r, 1+r.IntN(2*room+3))
			walk(t, r, room, from)
		}
	}
}

// P11.3 with them: all keys have one Hash.
func TestDrawnCallsOfNamesakes(t *testing.T) {
	r := rand.New(rand.NewPCG(11, 2))
	for _, room := range []int{1, 2, 3, 7, 20} {
		for range 30 {
			from := pool(r, 1+r.IntN(2*room+3))
			for i, k := range from {
				from[i] = namesake(k, from[0])
				if Hash(from[i]) != Hash(from[0]) {
					t.Fatalf("%+v is no namesake of %+v", from[i], from[0])
				}
			}
			walk(t, r, room, from)
		}
	}
}

// P11.4, P11.5: a great cache, and more keys than it has room for.
func TestDrawnCallsWithMuchRoom(t *testing.T) {
	r := rand.New(rand.NewPCG(11, 4))
	for _, room := range []int{1000, 4096} {
		from := make([]Key, room+room/4)
		for i := range from {
			from[i] = styled(Key{Text: strconv.Itoa(i), Width: i % 3}, 2, i%5, 1, i%2)
		}
		c, p := made[int](t, room), &plain{room: room}
		for value := range 4 * room {
			k := from[r.IntN(len(from))]
			p.put(k, value)
			c.Put(k, value)
			k = from[r.IntN(len(from))]
			want, there := p.get(k)
			wantGet(t, c, k, want, there)
			if c.Len() > room {
				t.Fatalf("%d are there, and there is room for %d", c.Len(), room)
			}
		}
		if c.Len() != room {
			t.Errorf("only %d of %d are there", c.Len(), room)
		}
		p.agree(t, c)
	}
}

// P11.5: behind any calls, what Get finds is what was put last for that key, whatever went and came between.
func TestFoundIsPutLast(t *testing.T) {
	r := rand.New(rand.NewPCG(11, 5))
	for _, room := range []int{1, 3, 10, 50} {
		c := made[int](t, room)
		last := map[int]int{}
		for value := range 5000 {
			n := r.IntN(60)
			if r.IntN(2) == 0 {
				c.Put(numbered(n), value)
				last[n] = value
				wantGet(t, c, numbered(n), value, true)
				continue
			}
			if v, ok := c.Get(numbered(n)); ok && v != last[n] {
				t.Fatalf("Get of %d: %d, and %d was put last", n, v, last[n])
			}
		}
	}
}

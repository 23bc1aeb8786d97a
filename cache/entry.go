package cache

import "slices"

// entry is a key with its value: in the bucket of its hash, and in a row from the one that was asked for last to the one that was asked for longest ago.
type entry[V any] struct {
	key           Key
	value         V
	hash          uint64
	ahead, behind *entry[V]
}

// find: the entry of a key alike; nil, if there is none. The hash alone doesn't tell: unlike keys may have one.
func (c *Cache[V]) find(h uint64, k Key) *entry[V] {
	for _, e := range c.buckets[h] {
		if Alike(e.key, k) {
			return e
		}
	}
	return nil
}

func (c *Cache[V]) add(e *entry[V]) {
	c.buckets[e.hash] = append(c.buckets[e.hash], e)
	c.link(e)
	c.count++
}

func (c *Cache[V]) drop(e *entry[V]) {
	rest := c.buckets[e.hash]
	at := slices.Index(rest, e)
	rest = slices.Delete(rest, at, at+1)
	if len(rest) == 0 { // an empty bucket left behind for each key that ever was would grow for ever
		delete(c.buckets, e.hash)
	} else {
		c.buckets[e.hash] = rest
	}
	c.unlink(e)
	c.count--
}

func (c *Cache[V]) bringToFront(e *entry[V]) {
	c.unlink(e)
	c.link(e)
}

// link puts an entry that is in no row to the front.
func (c *Cache[V]) link(e *entry[V]) {
	e.ahead, e.behind = nil, c.front
	if c.front == nil {
		c.end = e
	} else {
		c.front.ahead = e
	}
	c.front = e
}

// unlink takes an entry out of the row: those on both sides of it stand side by side then.
func (c *Cache[V]) unlink(e *entry[V]) {
	if e.ahead == nil {
		c.front = e.behind
	} else {
		e.ahead.behind = e.behind
	}
	if e.behind == nil {
		c.end = e.ahead
	} else {
		e.behind.ahead = e.ahead
	}
}

package search

import (
	"iter"
	"math/bits"

	"reglet/api"
)

// set is some of a pattern's takers, by their numbers. There is room for all: each has at least a byte of the pattern's text.
type set [api.MaxPattern / 64]uint64

// single: the set of one taker.
func single(k int) set {
	var a set
	a[k/64] = 1 << (k % 64)
	return a
}

func (a set) or(b set) set {
	for k := range a {
		a[k] |= b[k]
	}
	return a
}

func (a set) and(b set) set {
	for k := range a {
		a[k] &= b[k]
	}
	return a
}

func (a set) without(b set) set {
	for k := range a {
		a[k] &^= b[k]
	}
	return a
}

func (a set) has(k int) bool { return a[k/64]>>(k%64)&1 == 1 }

// each gives out the takers, rising.
func (a set) each() iter.Seq[int] {
	return func(give func(int) bool) {
		for k, left := range a {
			for ; left != 0; left &= left - 1 {
				if !give(k*64 + bits.TrailingZeros64(left)) {
					return
				}
			}
		}
	}
}

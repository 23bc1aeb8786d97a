package cache

import (
	"strings"

	"reglet/api"
	"reglet/runs"
)

// Key is all that a paragraph's lines hang on.
type Key struct {
	Text  string
	Runs  []api.Run
	Table int
	Width int
	Set   api.Settings
}

// Alike: are two keys?
func Alike(a, b Key) bool {
	return a.Table == b.Table && a.Width == b.Width && a.Set == b.Set && a.Text == b.Text && runs.Same(a.Runs, b.Runs)
}

// Hash: a number that keys which are alike have in common.
func Hash(k Key) uint64 {
	h := mixRuns(mixText(0, k.Text), k.Runs)
	s := k.Set
	for _, n := range [...]int{k.Table, k.Width, s.Tolerance, s.Line, s.Adjacent, s.Double, s.Last, s.Orphans, s.Widows} {
		h = mix(h, uint64(n))
	}
	return h
}

// mixText takes the length in too, so that what is mixed in behind it isn't taken for bytes of it.
func mixText(h uint64, text string) uint64 {
	for i := range len(text) {
		h = mix(h, uint64(text[i]))
	}
	return mix(h, uint64(len(text)))
}

// mixRuns takes in where styles begin, not how the runs are cut: lists that tell the same may be cut otherwise. Bytes are counted with wrap-round, which is the same for all of these lists.
func mixRuns(h uint64, list []api.Run) uint64 {
	var bytes uint64
	style, begun := 0, false
	for _, run := range list {
		if run.Len <= 0 {
			continue
		}
		if !begun || run.Style != style {
			h = mix(mix(h, bytes), uint64(run.Style))
			style, begun = run.Style, true
		}
		bytes += uint64(run.Len)
	}
	return mix(h, bytes)
}

// factor is odd, so that mix never takes different numbers to one for the same h.
const factor = 0x9E3779B97F4A7C15

// mix takes one more number in.
func mix(h, n uint64) uint64 {
	h = (h ^ n) * factor
	return h ^ h>>32 // a product's low bits hang on low bits alone: the high ones are brought down
}

// own: a key alike, cut as this one, in memory of its own.
func own(k Key) Key {
	k.Text = strings.Clone(k.Text)
	k.Runs = append([]api.Run(nil), k.Runs...)
	return k
}

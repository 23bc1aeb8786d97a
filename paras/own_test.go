package paras

import (
	"slices"
	"strings"
	"testing"

	"reglet/api"
)

// edit is a call on an index and on its text.
type edit struct {
	index func(x *Index)
	text  func(s string) string
}

func edits() []edit {
	ins := func(at int, s string) edit {
		return edit{
			func(x *Index) { x.Insert(at, s) },
			func(text string) string { left, _, _ := insert(text, at, s); return left },
		}
	}
	del := func(from, to int) edit {
		return edit{
			func(x *Index) { x.Delete(from, to) },
			func(text string) string { left, _, _ := remove(text, from, to); return left },
		}
	}
	return []edit{ins(0, "x\n"), ins(4, "y"), ins(8, "z"), ins(8, "\n"), del(0, 3), del(2, 3), del(5, 8), del(0, 8), del(7, 8)}
}

// P6.4: a Copy and its original go their own ways.
func TestCopy(t *testing.T) {
	const text = "ab\ncd\nef"
	for _, one := range edits() {
		for _, other := range edits() {
			x := New(text)
			k := x.Copy()
			agree(t, k, text)
			one.index(x)
			agree(t, k, text)
			other.index(k)
			agree(t, k, other.text(text))
			agree(t, x, one.text(text))

			x = New(text)
			one.index(x)
			k = x.Copy()
			other.index(x)
			agree(t, k, one.text(text))
			agree(t, x, other.text(one.text(text)))
		}
	}
	for _, s := range []string{"", "\n", "a"} {
		x := New(s)
		k := x.Copy()
		if x == k {
			t.Error("a copy is the index itself")
		}
		x.Insert(len(s), "b\nc")
		agree(t, k, s)
		k.Insert(0, "\n")
		agree(t, x, s+"b\nc")
		agree(t, k, "\n"+s)
	}
}

// Rule 4: what Split told is the caller's own: another answer and the text stay as they were.
func TestSplitIsNew(t *testing.T) {
	for _, s := range []string{"ab\ncd\n\nef", strings.Repeat("a\n", 9), "a"} {
		told, _ := Split(s)
		again, _ := Split(s)
		before := slices.Clone(again)
		full := told[:cap(told)]
		for i := range full {
			full[i] = 99
		}
		if !slices.Equal(again, before) {
			t.Errorf("another answer became %v", again)
		}
		agree(t, New(s), s)
	}
}

// Rule 3: a refused call leaves the index as it was.
func TestRefused(t *testing.T) {
	const text = "ab\ncd\nef"
	much := strings.Repeat("\n", api.MaxText)
	refused := []func(x *Index) (api.Interval, api.Errno){
		func(x *Index) (api.Interval, api.Errno) { return x.Insert(-1, "a\nb") },
		func(x *Index) (api.Interval, api.Errno) { return x.Insert(9, "a\nb") },
		func(x *Index) (api.Interval, api.Errno) { return x.Insert(8, much) },
		func(x *Index) (api.Interval, api.Errno) { return x.Insert(0, much) },
		func(x *Index) (api.Interval, api.Errno) { return x.Delete(-1, 8) },
		func(x *Index) (api.Interval, api.Errno) { return x.Delete(0, 9) },
		func(x *Index) (api.Interval, api.Errno) { return x.Delete(8, 0) },
		func(x *Index) (api.Interval, api.Errno) { return x.Over(8, 0) },
	}
	for n, call := range refused {
		x := New(text)
		if i, err := call(x); i != (api.Interval{}) || err == api.OK {
			t.Errorf("call %d: %v, %d", n, i, err)
		}
		agree(t, x, text)
		for _, e := range edits() {
			x := New(text)
			call(x)
			e.index(x)
			agree(t, x, e.text(text))
		}
	}
}

package runs

import (
	"math/rand/v2"
	"slices"
	"testing"

	"reglet/api"
)

// P5.4.
func TestSame(t *testing.T) {
	tests := []struct {
		a, b []api.Run
		want bool
	}{
		{nil, nil, true},
		{nil, []api.Run{}, true},
		{nil, []api.Run{{Len: 0, Style: 3}, {Len: -4, Style: 1}}, true},
		{nil, []api.Run{{Len: 0, Style: 3}, {Len: 1, Style: 0}}, false},
		{nil, []api.Run{{Len: 1, Style: 0}, {Len: -1, Style: 0}}, false},
		{[]api.Run{{Len: 3, Style: 1}}, []api.Run{{Len: 3, Style: 1}}, true},
		{[]api.Run{{Len: 3, Style: 1}}, []api.Run{{Len: 3, Style: 2}}, false},
		{[]api.Run{{Len: 3, Style: 1}}, []api.Run{{Len: 4, Style: 1}}, false},
		{[]api.Run{{Len: 3, Style: 1}}, []api.Run{{Len: 1, Style: 1}, {Len: 2, Style: 1}}, true},
		{[]api.Run{{Len: 3, Style: 1}}, []api.Run{{Len: 1, Style: 1}, {Len: 0, Style: 9}, {Len: 2, Style: 1}}, true},
		{[]api.Run{{Len: 3, Style: 1}}, []api.Run{{Len: 1, Style: 1}, {Len: -9, Style: 9}, {Len: 2, Style: 1}}, true},
		{[]api.Run{{Len: 3, Style: 1}}, []api.Run{{Len: 1, Style: 1}, {Len: 1, Style: 2}, {Len: 1, Style: 1}}, false},
		{[]api.Run{{Len: 3, Style: 1}, {Len: 2, Style: 0}}, []api.Run{{Len: 3, Style: 1}}, false},
		{[]api.Run{{Len: 3, Style: 1}, {Len: 2, Style: 0}}, []api.Run{{Len: 2, Style: 1}, {Len: 3, Style: 0}}, false},
		{[]api.Run{{Len: 2, Style: 1}, {Len: 2, Style: 1}, {Len: 1, Style: 5}}, []api.Run{{Len: 1, Style: 1}, {Len: 3, Style: 1}, {Len: 1, Style: 5}}, true},
		{[]api.Run{{Len: minInt, Style: 1}, {Len: 1, Style: 1}}, []api.Run{{Len: 1, Style: 1}, {Len: minInt, Style: 2}}, true},
		// Styles that no list may have are held against each other too.
		{[]api.Run{{Len: 1, Style: -1}}, []api.Run{{Len: 1, Style: -1}}, true},
		{[]api.Run{{Len: 1, Style: -1}}, []api.Run{{Len: 1, Style: 32}}, false},
		{[]api.Run{{Len: 1, Style: maxInt}}, []api.Run{{Len: 1, Style: minInt}}, false},
		// More bytes than a number can count.
		{[]api.Run{{Len: maxInt, Style: 1}, {Len: maxInt, Style: 1}, {Len: 2, Style: 1}}, nil, false},
		{[]api.Run{{Len: maxInt, Style: 1}, {Len: maxInt, Style: 1}, {Len: 3, Style: 1}}, []api.Run{{Len: 1, Style: 1}}, false},
		{[]api.Run{{Len: maxInt, Style: 1}, {Len: maxInt, Style: 1}}, []api.Run{{Len: 1, Style: 1}, {Len: maxInt, Style: 1}, {Len: maxInt - 1, Style: 1}}, true},
	}
	for _, test := range tests {
		a, b := slices.Clone(test.a), slices.Clone(test.b)
		if got := Same(a, b); got != test.want {
			t.Errorf("Same(%v, %v): %v", test.a, test.b, got)
		}
		if got := Same(b, a); got != test.want {
			t.Errorf("Same(%v, %v): %v", test.b, test.a, got)
		}
		if !slices.Equal(a, test.a) || !slices.Equal(b, test.b) {
			t.Errorf("Same made %v and %v of %v and %v", a, b, test.a, test.b)
		}
	}
}

func spelt(list []api.Run) []int {
	var styles []int
	for _, run := range list {
		styles = append(styles, slices.Repeat([]int{run.Style}, max(run.Len, 0))...)
	}
	return styles
}

// P5.4: drawn lists, byte by byte.
func TestDrawnSame(t *testing.T) {
	r := rand.New(rand.NewPCG(5, 3))
	draw := func() []api.Run {
		list := make([]api.Run, r.IntN(5))
		for i := range list {
			list[i] = api.Run{Len: r.IntN(4) - 1, Style: r.IntN(2)}
		}
		return list
	}
	alike := 0
	for range 20000 {
		a, b := draw(), draw()
		want := slices.Equal(spelt(a), spelt(b))
		if want {
			alike++
		}
		if got := Same(a, b); got != want {
			t.Fatalf("Same(%v, %v): %v, want %v", a, b, got, want)
		}
	}
	if alike < 100 {
		t.Errorf("only %d of the drawn lists were alike", alike)
	}
}

package runs

import (
	"math/rand/v2"
	"slices"
	"testing"

	"reglet/api"
)

// pair is a list and its model, that go the same way.
type pair struct {
	list  *List
	model *model
}

func drawnPair(r *rand.Rand) pair {
	n, s := r.IntN(6), r.IntN(3)
	l, _ := New(n, s)
	return pair{l, &model{styles: slices.Repeat([]int{s}, n), first: s}}
}

// drawnPlace: mostly a place of n bytes, now and then one beyond them.
func drawnPlace(r *rand.Rand, n int) int {
	switch r.IntN(24) {
	case 0:
		return -1 - r.IntN(3)
	case 1:
		return n + 1 + r.IntN(3)
	case 2:
		return []int{minInt, minInt + 1, maxInt - 1, maxInt}[r.IntN(4)]
	}
	return r.IntN(n + 1)
}

func drawnPart(r *rand.Rand, n int) (int, int) {
	from, to := drawnPlace(r, n), drawnPlace(r, n)
	if from > to && r.IntN(16) > 0 {
		from, to = to, from
	}
	return from, to
}

func drawnStyle(r *rand.Rand) int {
	switch r.IntN(20) {
	case 0:
		return []int{-1, 32, minInt, maxInt}[r.IntN(4)]
	case 1:
		return 31
	}
	return r.IntN(3)
}

func drawnRuns(r *rand.Rand) []api.Run {
	var list []api.Run
	for range r.IntN(5) {
		run := api.Run{Len: r.IntN(4), Style: drawnStyle(r)}
		if r.IntN(30) == 0 {
			run.Len = []int{-1, minInt, maxInt}[r.IntN(3)]
		}
		list = append(list, run)
	}
	return list
}

// step does one drawn call on both of a pair and holds what they answer against each other.
func (p pair) step(t *testing.T, r *rand.Rand) {
	t.Helper()
	n := p.list.Len()
	from, to := drawnPart(r, n)
	switch r.IntN(6) {
	case 0:
		many := []int{0, 1, 2, 3, 4, -1, minInt, maxInt, 65536 - n + 1}[r.IntN(9)]
		if got, want := p.list.Insert(from, many), p.model.insert(from, many); got != want {
			t.Fatalf("Insert(%d, %d) of %d bytes: %d, want %d", from, many, n, got, want)
		}
	case 1:
		if got, want := p.list.Delete(from, to), p.model.delete(from, to); got != want {
			t.Fatalf("Delete(%d, %d) of %d bytes: %d, want %d", from, to, n, got, want)
		}
	case 2, 3:
		s := drawnStyle(r)
		got, err := p.list.Set(from, to, s)
		if want, wantErr := p.model.set(from, to, s); got != want || err != wantErr {
			t.Fatalf("Set(%d, %d, %d) of %d bytes: %v, %d, want %v, %d", from, to, s, n, got, err, want, wantErr)
		}
	case 4:
		list := drawnRuns(r)
		if got, want := p.list.Lay(from, list), p.model.lay(from, list); got != want {
			t.Fatalf("Lay(%d, %v) of %d bytes: %d, want %d", from, list, n, got, want)
		}
	case 5:
		p.slice(t, from, to)
	}
}

func (p pair) slice(t *testing.T, from, to int) {
	t.Helper()
	got, err := p.list.Slice(from, to)
	wantErr := p.model.partFault(from, to)
	var want []api.Run
	if wantErr == api.OK {
		want = p.model.runs(from, to)
	}
	if !slices.Equal(got, want) || err != wantErr {
		t.Fatalf("Slice(%d, %d): %v, %d, want %v, %d", from, to, got, err, want, wantErr)
	}
}

// Many calls in a row, of copies too, against each byte's style: P5.1 to P5.4, and that what is refused changes nothing.
func TestDrawnCalls(t *testing.T) {
	r := rand.New(rand.NewPCG(5, 1))
	for range 400 {
		pairs := []pair{drawnPair(r)}
		for range 60 {
			p := pairs[r.IntN(len(pairs))]
			p.step(t, r)
			if len(pairs) < 4 && r.IntN(12) == 0 {
				pairs = append(pairs, pair{p.list.Copy(), p.model.copy()})
			}
			for _, q := range pairs {
				q.model.agree(t, q.list)
			}
		}
	}
}

// P5.5, of drawn lists: what is inserted and deleted again, and what is sliced and laid again, leaves the list.
func TestDrawnReturn(t *testing.T) {
	r := rand.New(rand.NewPCG(5, 2))
	for range 2000 {
		p := drawnPair(r)
		for range r.IntN(12) {
			p.step(t, r)
		}
		at, n := r.IntN(p.list.Len()+1), r.IntN(9)
		if err := p.list.Insert(at, n); err != api.OK {
			t.Fatalf("Insert(%d, %d): %d", at, n, err)
		}
		if err := p.list.Delete(at, at+n); err != api.OK {
			t.Fatalf("Delete(%d, %d): %d", at, at+n, err)
		}
		p.model.agree(t, p.list)

		from := r.IntN(p.list.Len() + 1)
		to := from + r.IntN(p.list.Len()+1-from)
		list, err := p.list.Slice(from, to)
		if err != api.OK {
			t.Fatalf("Slice(%d, %d): %d", from, to, err)
		}
		if err := p.list.Lay(from, list); err != api.OK {
			t.Fatalf("Lay(%d, %v): %d", from, list, err)
		}
		p.model.agree(t, p.list)

		// Laid again over other styles, too.
		p.list.Set(from, to, 31)
		if err := p.list.Lay(from, list); err != api.OK {
			t.Fatalf("Lay(%d, %v): %d", from, list, err)
		}
		p.model.agree(t, p.list)
	}
}

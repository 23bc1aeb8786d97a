package pieces_test

import (
	"strings"
	"testing"

	"reglet/api"
	"reglet/pieces"
)

// P3.1 to P3.4: small texts, of which all is asked behind every edit.
func TestDrawnEdits(t *testing.T) {
	for seed := range uint64(40) {
		d := drawn(seed)
		m := &plain{text: strings.ToValidUTF8(d.text(20), "")}
		x := made(t, m.text)
		for n := range 120 {
			d.edit(t, x, m, 5)
			checkSame(t, x, m)
			checkPlaces(t, x, m)
			if n%40 == 39 {
				checkParts(t, x, m)
			}
		}
	}
}

// P3.1 to P3.4: great texts in many pieces.
func TestManyDrawnEdits(t *testing.T) {
	for seed := range uint64(3) {
		d := drawn(100 + seed)
		m := &plain{text: strings.Repeat(mixed, 2000)}
		x := made(t, m.text)
		for n := range 6000 {
			d.edit(t, x, m, 9)
			at, line := d.place(m), d.IntN(x.Lines()+1)
			checkPlace(t, x, m, at)
			checkRead(t, x, m, at, at+d.IntN(500))
			if n%50 == 0 {
				checkNewline(t, x, m, line)
				checkSame(t, x, m)
			}
		}
		if x.Pieces() < 1000 {
			t.Errorf("only %d Pieces", x.Pieces())
		}
	}
}

// P3.4: one rune at a time, always at one end, in the middle, or by turns: trees that grow and shrink on one side.
func TestDepthOnOneSide(t *testing.T) {
	for name, where := range map[string]func(n, size int) int{
		"front":  func(n, size int) int { return 0 },
		"back":   func(n, size int) int { return size },
		"middle": func(n, size int) int { return size / 2 / 2 * 2 },
		"turns":  func(n, size int) int { return n % 2 * size },
		"steps":  func(n, size int) int { return n * 1234 % (size/2 + 1) * 2 },
	} {
		x, m := made(t, ""), &plain{}
		step := func(e, want api.Errno) {
			if e != api.OK || want != api.OK {
				t.Fatalf("%s: %d, %d", name, e, want)
			}
			checkPieces(t, x, m)
		}
		for n := range 700 {
			at := where(n, x.Len())
			step(x.Insert(at, "\u00e9"), m.insert(at, "\u00e9"))
		}
		if x.Pieces() < 10 || m.text != x.String() {
			t.Fatalf("%s: %d Pieces", name, x.Pieces())
		}
		for n := range 700 {
			at := where(n, x.Len()-2)
			step(x.Delete(at, at+2), m.delete(at, at+2))
		}
		checkSame(t, x, m)
	}
}

// P3.4: great parts taken out, so that trees of very unlike depth meet.
func TestDepthOfWhatIsLeft(t *testing.T) {
	d := drawn(7)
	for range 300 {
		x, m := made(t, "\n"), &plain{text: "\n"}
		for range 1 + d.IntN(120) {
			at := d.IntN(x.Len() + 1)
			x.Insert(at, "ab\n")
			m.insert(at, "ab\n")
		}
		for x.Len() > 0 {
			from := d.IntN(x.Len() + 1)
			to := from + d.IntN(x.Len()-from+1)
			if e, want := x.Delete(from, to), m.delete(from, to); e != want {
				t.Fatalf("Delete(%d, %d): %d, not %d", from, to, e, want)
			}
			checkSame(t, x, m)
			if from == 0 && to > 0 && d.IntN(3) == 0 {
				break
			}
		}
	}
}

// P3.5: copies, and copies of copies, each edited on its own; all of them are asked behind every edit.
func TestCopies(t *testing.T) {
	for seed := range uint64(30) {
		d := drawn(200 + seed)
		m := &plain{text: mixed}
		texts, models := []*pieces.Text{made(t, mixed)}, []*plain{m}
		for range 150 {
			n := d.IntN(len(texts))
			if d.IntN(8) == 0 {
				k := d.IntN(len(texts))
				if len(texts) < 6 {
					texts, models, k = append(texts, nil), append(models, nil), len(texts)
				}
				same := *models[n]
				texts[k], models[k] = texts[n].Copy(), &same
			}
			d.edit(t, texts[n], models[n], 5)
			for k := range texts {
				checkSame(t, texts[k], models[k])
			}
		}
		for k := range texts {
			checkPlaces(t, texts[k], models[k])
		}
	}
}

// P3.5: what both add stands behind what they had in common, in the one and in the other.
func TestCopyAdds(t *testing.T) {
	for spare := range 40 {
		x := made(t, "0")
		for range spare {
			x.Insert(x.Len(), "-")
		}
		y := x.Copy()
		z := y.Copy()
		if y.String() != x.String() || y.Pieces() != x.Pieces() || y == x {
			t.Fatalf("Copy: %q of %q", y.String(), x.String())
		}
		was := x.String()
		for n, text := range []*pieces.Text{x, z, y, x, z, y} {
			if e := text.Insert(text.Len(), string(rune('a'+n))); e != api.OK {
				t.Fatal(e)
			}
		}
		if x.String() != was+"ad" || z.String() != was+"be" || y.String() != was+"cf" {
			t.Fatalf("of %q: %q, %q, %q", was, x.String(), z.String(), y.String())
		}
	}
}

// P3.5: a copy stays when what it was copied of is emptied, and the other way round.
func TestCopyEmptied(t *testing.T) {
	x, m := inPieces(t)
	y := x.Copy()
	if e := x.Delete(0, x.Len()); e != api.OK || x.String() != "" {
		t.Errorf("Delete: %d, %q", e, x.String())
	}
	checkSame(t, y, m)
	checkPlaces(t, y, m)
	z := y.Copy()
	if e := z.Delete(0, z.Len()); e != api.OK || z.String() != "" {
		t.Errorf("Delete: %d, %q", e, z.String())
	}
	checkSame(t, y, m)
	checkSame(t, x, &plain{})
}

// P3.6: what was inserted is taken out again, everywhere; and edits of nothing, which leave the pieces too.
func TestTakenOutAgain(t *testing.T) {
	for _, s := range []string{"", "x", "\n", mixed} {
		for at := range len(mixed+mixed) + 1 {
			x, m := inPieces(t)
			if x.Check(at) != api.OK {
				continue
			}
			n := x.Pieces()
			if e := x.Insert(at, s); e != api.OK {
				t.Fatalf("Insert(%d, %q): %d", at, s, e)
			}
			if e := x.Delete(at, at+len(s)); e != api.OK {
				t.Fatalf("Delete(%d, %d): %d", at, at+len(s), e)
			}
			m.edits += 2
			if s == "" && x.Pieces() != n {
				t.Fatalf("%d Pieces, not %d, after nothing at %d", x.Pieces(), n, at)
			}
			checkSame(t, x, m)
			checkPlaces(t, x, m)
		}
	}
}

// P3.6: many steps, undone one by one.
func TestUndone(t *testing.T) {
	d := drawn(5)
	x := made(t, mixed)
	states, undo := []string{mixed}, []func() api.Errno{}
	for len(undo) < 400 {
		at, s := d.IntN(x.Len()+1), strings.ToValidUTF8(d.text(4), "")
		if d.IntN(2) == 0 {
			if x.Insert(at, s) != api.OK {
				continue
			}
			undo = append(undo, func() api.Errno { return x.Delete(at, at+len(s)) })
		} else {
			out, e := x.Read(at, min(at+len(s), x.Len()))
			if e != api.OK || x.Delete(at, at+len(out)) != api.OK {
				continue
			}
			undo = append(undo, func() api.Errno { return x.Insert(at, out) })
		}
		states = append(states, x.String())
	}
	for n := len(undo) - 1; n >= 0; n-- {
		if e := undo[n](); e != api.OK || x.String() != states[n] {
			t.Fatalf("step %d: %d, %q, not %q", n, e, x.String(), states[n])
		}
	}
}

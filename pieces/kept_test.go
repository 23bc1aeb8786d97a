package pieces

import (
	"strings"
	"testing"

	"reglet/api"
)

// What was taken out again isn't kept for ever, and what is left is the text; a copy keeps its own.
func TestLetGo(t *testing.T) {
	x, _ := New("a\nb")
	long := strings.Repeat("\u20ac\n", 5000)
	var copies []*Text
	for n := range 400 {
		if e := x.Insert(2, long); e != api.OK {
			t.Fatalf("Insert %d: %d", n, e)
		}
		if n%20 == 0 {
			copies = append(copies, x.Copy())
		}
		if x.String() != "a\n"+long+"b" || x.Lines() != 5001 || x.Pieces() > 3 {
			t.Fatalf("Insert %d: %d bytes, %d Lines, %d Pieces", n, x.Len(), x.Lines(), x.Pieces())
		}
		if e := x.Delete(2, 2+len(long)); e != api.OK || x.String() != "a\nb" {
			t.Fatalf("Delete %d: %d, %d bytes", n, e, x.Len())
		}
		if len(x.added) > room {
			t.Fatalf("%d bytes are kept", len(x.added))
		}
	}
	for _, c := range copies {
		if c.String() != "a\n"+long+"b" {
			t.Fatalf("a copy has %d bytes", c.Len())
		}
	}
}

// The tree: what each node knows of those below it, no empty piece, and no side deeper than the other by two.
func TestTree(t *testing.T) {
	x, _ := New("0\n1\n2\n3")
	for n := range 3000 {
		at := n * n * 31 % (x.Len() + 1)
		if n%3 < 2 {
			x.Insert(at, "x\n"[n%2:])
		} else {
			x.Delete(at, min(at+n%4, x.Len()))
		}
		checkNode(t, x.root)
	}
	if x.Pieces() < 100 {
		t.Errorf("only %d Pieces", x.Pieces())
	}
}

func checkNode(t *testing.T, n *node) total {
	t.Helper()
	if n == nil {
		return total{}
	}
	l, r := checkNode(t, n.left), checkNode(t, n.right)
	ends := strings.Count(string(n.own.text), "\n")
	want := total{l.bytes + len(n.own.text) + r.bytes, l.ends + ends + r.ends, l.pieces + 1 + r.pieces, max(l.depth, r.depth) + 1}
	if n.sum != want || n.own.ends != ends || len(n.own.text) == 0 || l.depth > r.depth+1 || r.depth > l.depth+1 {
		t.Fatalf("a node: %v, %d line ends of %q, over %v and %v", n.sum, n.own.ends, n.own.text, l, r)
	}
	return want
}

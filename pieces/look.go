package pieces

import (
	"iter"
	"strings"
)

// lineEnd: the byte of the rune A, which no other rune has among its own.
const lineEnd = 0xA

// chunks gives out the texts of a tree's pieces.
func chunks(n *node) iter.Seq[string] {
	return func(yield func(string) bool) { give(n, yield) }
}

// give: false, when it was told to stop.
func give(n *node, yield func(string) bool) bool {
	return n == nil || give(n.left, yield) && yield(string(n.own.text)) && give(n.right, yield)
}

// whole: the pieces' texts, put together.
func whole(n *node) string {
	var out strings.Builder
	out.Grow(n.total().bytes)
	for chunk := range chunks(n) {
		out.WriteString(chunk)
	}
	return out.String()
}

// byteAt: the byte at a place; false: there is none.
func byteAt(n *node, at int) (byte, bool) {
	for n != nil {
		l := n.left.total()
		if at < l.bytes {
			n = n.left
			continue
		}
		at -= l.bytes
		if at < len(n.own.text) {
			return n.own.text[at], true
		}
		n, at = n.right, at-len(n.own.text)
	}
	return 0, false
}

// endsAhead: how many line ends are ahead of a place of the tree's bytes.
func endsAhead(n *node, at int) int {
	count := 0
	for n != nil {
		l := n.left.total()
		if at < l.bytes {
			n = n.left
			continue
		}
		at -= l.bytes
		count += l.ends
		if at < len(n.own.text) {
			return count + countEnds(n.own.text[:at])
		}
		count += n.own.ends
		n, at = n.right, at-len(n.own.text)
	}
	return count
}

// countEnds: how many line ends some bytes have.
func countEnds(text []byte) int {
	count := 0
	for at := range len(text) {
		if text[at] == lineEnd {
			count++
		}
	}
	return count
}

// endAt: where a line end stands; false: there is none of that number.
func endAt(n *node, number int) (int, bool) {
	ahead := 0
	for n != nil {
		l := n.left.total()
		if number < l.ends {
			n = n.left
			continue
		}
		number -= l.ends
		ahead += l.bytes
		if number < n.own.ends {
			return ahead + findEnd(n.own.text, number), true
		}
		ahead += len(n.own.text)
		n, number = n.right, number-n.own.ends
	}
	return 0, false
}

// findEnd: where a line end stands among some bytes; behind them, if there is none of that number.
func findEnd(text []byte, number int) int {
	for at := range len(text) {
		if text[at] != lineEnd {
			continue
		}
		if number == 0 {
			return at
		}
		number--
	}
	return len(text)
}

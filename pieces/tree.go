package pieces

// piece is a part, never empty, of what a text began with or of what was added.
type piece struct {
	text []byte
	ends int // its line ends
}

// node is a piece between the pieces ahead of it and behind it. None is changed once it is made: texts share them, and what is told of a text stays as it was told.
type node struct {
	left, right *node
	own         piece
	sum         total
}

// total: of a node and all below it.
type total struct {
	bytes, ends, pieces, depth int
}

// total: noughts, if there is no node.
func (n *node) total() total {
	if n == nil {
		return total{}
	}
	return n.sum
}

// cut: a piece of these bytes.
func cut(text []byte) piece { return piece{text, countEnds(text)} }

// leaf: a tree of one piece; none of no bytes.
func leaf(text []byte) *node {
	if len(text) == 0 {
		return nil
	}
	return link(nil, cut(text), nil)
}

// link: a node over two trees.
func link(left *node, own piece, right *node) *node {
	l, r := left.total(), right.total()
	return &node{left, right, own, total{
		bytes:  l.bytes + len(own.text) + r.bytes,
		ends:   l.ends + own.ends + r.ends,
		pieces: l.pieces + 1 + r.pieces,
		depth:  1 + max(l.depth, r.depth),
	}}
}

// lean: by how much the left tree is deeper than the right one.
func lean(left, right *node) int { return left.total().depth - right.total().depth }

// join: a balanced tree of two balanced ones, however deep each is, and a piece between them.
func join(left *node, own piece, right *node) *node {
	switch d := lean(left, right); {
	case d > 1:
		return balance(left.left, left.own, join(left.right, own, right))
	case d < -1:
		return balance(join(left, own, right.left), right.own, right.right)
	}
	return link(left, own, right)
}

// meet: a balanced tree of two balanced ones.
func meet(left, right *node) *node {
	if right == nil {
		return left
	}
	first, rest := shift(right)
	return join(left, first, rest)
}

// shift: the first piece of a tree, and a balanced tree of the others.
func shift(n *node) (piece, *node) {
	if n.left == nil {
		return n.own, n.right
	}
	first, rest := shift(n.left)
	return first, balance(rest, n.own, n.right)
}

// balance: a balanced tree of two and a piece, as link makes, where the one may be deeper than the other by two.
func balance(left *node, own piece, right *node) *node {
	switch d := lean(left, right); {
	case d > 1:
		// The inner tree would come to lie too deep, were it moved over whole.
		if lean(left.left, left.right) < 0 {
			left = turnLeft(left)
		}
		return turnRight(link(left, own, right))
	case d < -1:
		if lean(right.left, right.right) > 0 {
			right = turnRight(right)
		}
		return turnLeft(link(left, own, right))
	}
	return link(left, own, right)
}

// turnLeft: the same pieces with the right node on top.
func turnLeft(n *node) *node {
	top := n.right
	return link(link(n.left, n.own, top.left), top.own, top.right)
}

// turnRight: the same pieces with the left node on top.
func turnRight(n *node) *node {
	top := n.left
	return link(top.left, top.own, link(top.right, n.own, n.right))
}

// split: what is ahead of a place of the tree's bytes, and what is behind it.
func split(n *node, at int) (*node, *node) {
	if n == nil {
		return nil, nil
	}
	own := at - n.left.total().bytes
	switch {
	case own <= 0:
		ahead, behind := split(n.left, at)
		return ahead, join(behind, n.own, n.right)
	case own >= len(n.own.text):
		ahead, behind := split(n.right, own-len(n.own.text))
		return join(n.left, n.own, ahead), behind
	}
	return join(n.left, cut(n.own.text[:own]), nil), join(nil, cut(n.own.text[own:]), n.right)
}

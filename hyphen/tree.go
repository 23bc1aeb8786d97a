package hyphen

// edge leads from a node by a letter or a point.
type edge struct {
	from int
	sign rune
}

// tree has the patterns' letters and points as ways from the root, node 0, on: patterns that begin alike share the nodes of what is alike.
type tree struct {
	edges  map[edge]int
	levels map[int][]byte // of each node at which a pattern ends
}

func newTree() tree {
	return tree{edges: map[edge]int{}, levels: map[int][]byte{}}
}

// size: how many nodes: each but the root is where one edge leads.
func (t tree) size() int { return len(t.edges) + 1 }

// put: a pattern; one of the same letters and points counts no longer.
func (t tree) put(signs []rune, levels []byte) {
	node := 0
	for _, sign := range signs {
		step := edge{node, sign}
		next, ok := t.edges[step]
		if !ok {
			next = t.size()
			t.edges[step] = next
		}
		node = next
	}
	t.levels[node] = levels
}

// odd: the places of a word at which the level is odd: how many letters are ahead.
func (t tree) odd(letters []rune) []int {
	signs := append([]rune{point}, letters...)
	signs = append(signs, point)
	levels := t.highest(signs)
	var places []int
	for n := range letters {
		if levels[n+1]%2 == 1 { // the point is a sign, too
			places = append(places, n)
		}
	}
	return places
}

// highest: the greatest level that a pattern has ahead of each sign of a row, and behind the last one.
func (t tree) highest(row []rune) []byte {
	levels := make([]byte, len(row)+1)
	for from := range row {
		node := 0
		for _, sign := range row[from:] {
			next, ok := t.edges[edge{node, sign}]
			if !ok {
				break
			}
			node = next
			for k, level := range t.levels[node] {
				levels[from+k] = max(levels[from+k], level)
			}
		}
	}
	return levels
}

package marks

import (
	"cmp"
	"slices"
)

// All: the marks by their places, of one place by their numbers.
func (s *Set) All() []Mark {
	told := make([]Mark, len(s.list))
	copy(told, s.list)
	slices.SortFunc(told, order)
	return told
}

// Between: the numbers of the marks from a place up to another one, these too, by their places.
func (s *Set) Between(from, to int) []int {
	var numbers []int
	for _, m := range s.All() {
		if from <= m.At && m.At <= to {
			numbers = append(numbers, m.ID)
		}
	}
	return numbers
}

// order: below 0, if a is told ahead of b.
func order(a, b Mark) int {
	if a.At != b.At {
		return cmp.Compare(a.At, b.At)
	}
	return cmp.Compare(a.ID, b.ID)
}

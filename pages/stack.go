package pages

import (
	"strings"

	"reglet/api"
)

// Heights: how high the lines of each page are together.
func Heights(list []api.Slot, starts []int) []int {
	heights := make([]int, len(starts))
	for page := range starts {
		for _, s := range linesOf(list, starts, page) {
			heights[page] += s.Height
		}
	}
	return heights
}

// Of: lines as pages, each line with how far it stands below its page's top.
func Of(list []api.Line, starts []int) []api.Page {
	book := make([]api.Page, len(starts))
	for page := range starts {
		book[page].Lines = stacked(linesOf(list, starts, page))
	}
	return book
}

// linesOf: the lines of a page. Starts that don't rise, or lie beyond the lines, are brought to where lines are: nothing is asked of them but an answer.
func linesOf[T any](list []T, starts []int, page int) []T {
	from := min(max(starts[page], 0), len(list))
	to := min(max(End(starts, page, len(list)), from), len(list))
	return list[from:to]
}

// stacked: copies of lines, one below the other.
func stacked(list []api.Line) []api.Line {
	out := make([]api.Line, len(list))
	y := 0
	for k, l := range list {
		l.Text = strings.Clone(l.Text)
		l.Runs = append([]api.Run(nil), l.Runs...)
		l.Y = y
		y += l.Height
		out[k] = l
	}
	return out
}

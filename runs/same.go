package runs

import "reglet/api"

// Same: do two lists of runs tell the same styles of as many bytes? The bytes are never counted together: the runs' lengths may be any numbers.
func Same(a, b []api.Run) bool {
	var x, y api.Run
	for {
		x, a = underway(x, a)
		y, b = underway(y, b)
		if x.Len <= 0 || y.Len <= 0 {
			return x.Len <= 0 && y.Len <= 0
		}
		if x.Style != y.Style {
			return false
		}
		n := min(x.Len, y.Len)
		x.Len -= n
		y.Len -= n
	}
}

// underway: what is left of a run, or of the list's first that counts, if nothing is left of it; and the list behind it.
func underway(left api.Run, list []api.Run) (api.Run, []api.Run) {
	for left.Len <= 0 && len(list) > 0 {
		left, list = list[0], list[1:]
	}
	return left, list
}

package items

import "reglet/api"

// The bounds of what Build tells of a text of MaxText bytes.
const (
	mostItems   = 4 * api.MaxText
	mostMeasure = api.MaxUnit * api.MaxText
)

// Right: may items be a paragraph's?
func Right(list []api.Item) api.Errno {
	if len(list) == 0 || len(list) > mostItems || !Forced(list[len(list)-1]) {
		return api.ErrItems
	}
	at := 0
	for _, x := range list {
		if x.From != at || x.To < x.From || x.To > api.MaxText || !measured(x) || !ofKind(x) {
			return api.ErrItems
		}
		at = x.To
	}
	return api.OK
}

// measured: may an item of some kind have such measures?
func measured(x api.Item) bool {
	return measure(x.Width) && measure(x.Stretch) && measure(x.Shrink) && x.Shrink <= x.Width
}

// measure: may an item have that measure?
func measure(n int) bool { return n >= 0 && n <= mostMeasure }

// ofKind: does an item have a kind, and no more than that kind has? (Its measures may be.)
func ofKind(x api.Item) bool {
	switch x.Kind {
	case api.Box:
		return x.Stretch == 0 && x.Shrink == 0 && x.Cost == 0 && !x.Fill && !x.Flag
	case api.Glue:
		return x.Cost == 0 && !x.Flag && (!x.Fill || x.Width == 0 && x.Stretch == 0)
	case api.Penalty:
		return x.Stretch == 0 && x.Shrink == 0 && !x.Fill && x.Cost >= Always && x.Cost <= Never
	}
	return false
}

package runs

import "reglet/api"

// Insert: n bytes come to at, of the style near it.
func (l *List) Insert(at, n int) api.Errno {
	s, err := l.Near(at)
	if err != api.OK {
		return err
	}
	if n < 0 {
		return api.ErrRange
	}
	if n > api.MaxText-l.Len() {
		return api.ErrSize
	}
	l.put(at, at, []api.Run{{Len: n, Style: s}})
	return api.OK
}

// Delete: the bytes from from up to to go.
func (l *List) Delete(from, to int) api.Errno {
	if l.outside(from, to) {
		return api.ErrOffset
	}
	if l.Len() > 0 {
		l.bare = l.parts[0].style
	}
	l.put(from, to, nil)
	return api.OK
}

// Set: the bytes from from up to to have the style s; whether one of them had another.
func (l *List) Set(from, to, s int) (bool, api.Errno) {
	if l.outside(from, to) {
		return false, api.ErrOffset
	}
	if !isStyle(s) {
		return false, api.ErrStyle
	}
	if l.all(from, to, s) {
		return false, api.OK
	}
	l.put(from, to, []api.Run{{Len: to - from, Style: s}})
	return true, api.OK
}

// Lay: the bytes from at on have the styles that the runs tell.
func (l *List) Lay(at int, list []api.Run) api.Errno {
	if l.outside(at, at) {
		return api.ErrOffset
	}
	to, err := l.reach(at, list)
	if err == api.OK {
		l.put(at, to, list)
	}
	return err
}

// reach: the place where runs end that are laid from at on, or their first fault.
func (l *List) reach(at int, list []api.Run) (int, api.Errno) {
	for _, run := range list {
		switch {
		case run.Len < 0:
			return 0, api.ErrRange
		case !isStyle(run.Style):
			return 0, api.ErrStyle
		case run.Len > l.Len()-at:
			return 0, api.ErrOffset
		}
		at += run.Len
	}
	return at, api.OK
}

func (l *List) all(from, to, s int) bool {
	for _, run := range between(l.parts, from, to) {
		if run.Style != s {
			return false
		}
	}
	return true
}

// put has the runs of list stand where the bytes from from up to to stood. The parts are made anew, as those that stood are never changed.
func (l *List) put(from, to int, list []api.Run) {
	var parts []part
	for _, run := range between(l.parts, 0, from) {
		parts = add(parts, run)
	}
	for _, run := range list {
		parts = add(parts, run)
	}
	for _, run := range between(l.parts, to, l.Len()) {
		parts = add(parts, run)
	}
	l.parts = parts
}

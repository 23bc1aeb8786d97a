package diff

import (
	"slices"

	"reglet/api"
)

// Patch: what pages are with regions.
func Patch(list []api.Page, regions []api.Region) ([]api.Page, api.Errno) {
	stay, ok := staying(list, regions)
	if !ok {
		return nil, api.ErrPatch
	}
	pages := Copy(list[:stay])
	for _, r := range regions {
		switch r.Kind {
		case api.Changed:
			was := pages[r.Page].Lines
			pages[r.Page].Lines = slices.Concat(was[:r.From], own(r.Lines), was[r.From+r.Old:])
		case api.Added:
			pages = append(pages, api.Page{Lines: own(r.Lines)})
		}
	}
	return pages, api.OK
}

// staying: how many of the pages stay; false: the regions can't be done to them.
func staying(list []api.Page, regions []api.Region) (int, bool) {
	last, next := -1, len(list) // the page of the region ahead; the one that could be added
	for k, r := range regions {
		if r.Page <= last {
			return 0, false
		}
		last = r.Page
		switch {
		case changes(r, list):
		case adds(r, next):
			next++
		case r.Page < len(list) && allGone(list[r.Page:], r.Page, regions[k:]):
			return r.Page, true
		default:
			return 0, false
		}
	}
	return len(list), true
}

// changes: is it of lines that a page has? From and Old aren't added: the sum may be beyond an int.
func changes(r api.Region, list []api.Page) bool {
	if r.Kind != api.Changed || r.Page >= len(list) {
		return false
	}
	many := len(list[r.Page].Lines)
	return r.From >= 0 && r.Old >= 0 && r.Old <= many-r.From
}

// adds: is it a whole new page, and the next one that could be?
func adds(r api.Region, next int) bool {
	return r.Kind == api.Added && r.Page == next && r.From == 0 && r.Old == 0
}

// allGone: are the regions those of the pages from first on, each Gone as it was, and no others?
func allGone(pages []api.Page, first int, regions []api.Region) bool {
	if len(regions) != len(pages) {
		return false
	}
	for k, r := range regions {
		right := r.Kind == api.Gone && r.Page == first+k && r.From == 0
		if !right || r.Old != len(pages[k].Lines) || len(r.Lines) != 0 {
			return false
		}
	}
	return true
}

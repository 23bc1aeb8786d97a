package diff_test

import (
	"testing"

	"reglet/api"
	"reglet/diff"
)

// patched: the pages that the tests of Patch begin with.
func patched() []api.Page { return book("abc", "de", "f") }

func wantPatch(t *testing.T, list []api.Page, regions []api.Region, want ...string) {
	t.Helper()
	got, e := diff.Patch(list, regions)
	if e != api.OK || !samePages(got, book(want...)) {
		t.Errorf("Patch(%v, %v): %v, %d", list, regions, got, e)
	}
	holdsPatch(t, list, regions)
}

// P14.4: lists of regions that are right.
func TestPatch(t *testing.T) {
	tests := []struct {
		regions []api.Region
		want    []string
	}{
		{nil, []string{"abc", "de", "f"}},
		{[]api.Region{}, []string{"abc", "de", "f"}},
		{[]api.Region{changed(0, 1, 1, "x")}, []string{"axc", "de", "f"}},
		{[]api.Region{changed(0, 0, 1, "x")}, []string{"xbc", "de", "f"}},
		{[]api.Region{changed(0, 2, 1, "x")}, []string{"abx", "de", "f"}},
		{[]api.Region{changed(1, 0, 0, "xy")}, []string{"abc", "xyde", "f"}},
		{[]api.Region{changed(1, 1, 0, "xy")}, []string{"abc", "dxye", "f"}},
		{[]api.Region{changed(1, 2, 0, "xy")}, []string{"abc", "dexy", "f"}},
		{[]api.Region{changed(0, 0, 3, "")}, []string{"", "de", "f"}},
		{[]api.Region{changed(0, 1, 2, "")}, []string{"a", "de", "f"}},
		{[]api.Region{changed(0, 0, 3, "uvwxyz")}, []string{"uvwxyz", "de", "f"}},
		// What leaves a page as it is may be told of it.
		{[]api.Region{changed(2, 0, 0, "")}, []string{"abc", "de", "f"}},
		{[]api.Region{changed(2, 1, 0, "")}, []string{"abc", "de", "f"}},
		{[]api.Region{changed(0, 1, 1, "b")}, []string{"abc", "de", "f"}},
		{[]api.Region{changed(0, 0, 1, ""), changed(2, 1, 0, "g")}, []string{"bc", "de", "fg"}},
		{[]api.Region{changed(0, 0, 1, ""), changed(1, 0, 1, ""), changed(2, 0, 1, "")}, []string{"bc", "e", ""}},
		{[]api.Region{added(3, "gh")}, []string{"abc", "de", "f", "gh"}},
		{[]api.Region{added(3, "")}, []string{"abc", "de", "f", ""}},
		{[]api.Region{added(3, "gh"), added(4, ""), added(5, "i")}, []string{"abc", "de", "f", "gh", "", "i"}},
		{[]api.Region{changed(2, 0, 1, "x"), added(3, "gh")}, []string{"abc", "de", "x", "gh"}},
		{[]api.Region{changed(0, 0, 1, "x"), added(3, "gh"), added(4, "i")}, []string{"xbc", "de", "f", "gh", "i"}},
		{[]api.Region{gone(2, 1)}, []string{"abc", "de"}},
		{[]api.Region{gone(1, 2), gone(2, 1)}, []string{"abc"}},
		{[]api.Region{gone(0, 3), gone(1, 2), gone(2, 1)}, nil},
		{[]api.Region{changed(0, 1, 1, "x"), gone(2, 1)}, []string{"axc", "de"}},
		{[]api.Region{changed(0, 1, 1, "x"), gone(1, 2), gone(2, 1)}, []string{"axc"}},
		{[]api.Region{changed(0, 1, 1, "x"), changed(1, 2, 0, "y"), gone(2, 1)}, []string{"axc", "dey"}},
	}
	for _, test := range tests {
		wantPatch(t, patched(), test.regions, test.want...)
	}
	wantPatch(t, nil, nil)
	wantPatch(t, nil, []api.Region{added(0, "a"), added(1, "b")}, "a", "b")
	wantPatch(t, book(""), []api.Region{changed(0, 0, 0, "ab")}, "ab")
	wantPatch(t, book(""), []api.Region{gone(0, 0)})
	wantPatch(t, book("", ""), []api.Region{changed(0, 0, 0, "a"), added(2, "b")}, "a", "", "b")
}

// wrongs: each thing that P14.4 refuses, done to the pages of patched.
func wrongs() map[string][]api.Region {
	x := changed(0, 1, 1, "x")
	with := func(r api.Region, names string) api.Region {
		r.Lines = rows(names)
		return r
	}
	at := func(r api.Region, from, old int) api.Region {
		r.From, r.Old = from, old
		return r
	}
	return map[string][]api.Region{
		"fall":                      {changed(1, 0, 0, "x"), changed(0, 0, 0, "x")},
		"fall later":                {x, changed(2, 0, 0, "x"), changed(1, 0, 0, "x")},
		"fall from Added":           {added(3, "g"), x},
		"fall from Added to next":   {added(4, "g"), added(3, "h")},
		"fall from Gone":            {gone(2, 1), gone(1, 2)},
		"fall from Gone to Changed": {gone(2, 1), changed(1, 0, 0, "x")},
		"twice Changed":             {x, x},
		"twice Added":               {added(3, "g"), added(3, "g")},
		"twice Gone":                {gone(2, 1), gone(2, 1)},
		"Changed and Gone":          {changed(2, 0, 0, "x"), gone(2, 1)},
		"Changed to none and Gone":  {changed(2, 0, 1, ""), gone(2, 0)},
		"Gone and Added":            {gone(2, 1), added(2, "x")},
		"Added and Changed":         {added(3, "g"), changed(3, 0, 0, "x")},
		"Added and Gone":            {added(3, "g"), gone(3, 1)},

		"Changed below 0":         {changed(-1, 0, 0, "x")},
		"Changed far below 0":     {changed(minInt, 0, 0, "x")},
		"Added below 0":           {added(-1, "x")},
		"Gone below 0":            {gone(-1, 0)},
		"Gone of all from -1 on":  {gone(-1, 0), gone(0, 3), gone(1, 2), gone(2, 1)},
		"Changed of none":         {changed(3, 0, 0, "x")},
		"Changed of none, at all": {changed(3, 0, 0, "")},
		"Changed far beyond":      {changed(maxInt, 0, 0, "x")},
		"Changed behind Added":    {added(3, "g"), changed(4, 0, 0, "x")},

		"kind 0":       {{Page: 0}},
		"kind 0, next": {{Page: 3}},
		"kind 0, last": {{Page: 2, Old: 1}},
		"kind 4":       {{Page: 0, Kind: 4, From: 1, Old: 1, Lines: rows("x")}},
		"kind 4, next": {{Page: 3, Kind: 4, Lines: rows("x")}},
		"kind 4, last": {{Page: 2, Kind: 4, Old: 1}},
		"kind -1":      {{Page: 0, Kind: -1, From: 1, Old: 1}},
		"kind least":   {{Page: 0, Kind: minInt}},
		"kind most":    {{Page: 3, Kind: maxInt, Lines: rows("x")}},

		"From below 0":             {changed(0, -1, 0, "x")},
		"From below 0, Old above":  {changed(0, -1, 2, "x")},
		"From far below 0":         {changed(0, minInt, 0, "x")},
		"From least, Old most":     {changed(0, minInt, maxInt, "x")},
		"Old below 0":              {changed(0, 0, -1, "x")},
		"Old below 0, From above":  {changed(0, 2, -1, "x")},
		"Old below 0, From beyond": {changed(0, 4, -1, "x")},
		"Old far below 0":          {changed(0, 3, minInt, "x")},
		"both below 0":             {changed(0, -1, -1, "x")},
		"both least":               {changed(0, minInt, minInt, "x")}, // their sum, wrapped, is 0
		"From beyond":              {changed(0, 4, 0, "x")},
		"Old beyond":               {changed(0, 0, 4, "x")},
		"both beyond":              {changed(0, 2, 2, "x")},
		"at the end, and beyond":   {changed(0, 3, 1, "x")},
		"beyond this page alone":   {changed(2, 1, 1, "x")},
		"From most":                {changed(0, maxInt, 0, "x")},
		"Old most":                 {changed(0, 0, maxInt, "x")},
		"sum beyond an int":        {changed(0, 1, maxInt, "x")},
		"sum beyond an int, From":  {changed(0, maxInt, 1, "x")},
		"both most":                {changed(0, maxInt, maxInt, "x")},
		"half and half":            {changed(0, maxInt/2+1, maxInt/2+1, "x")},

		"Added over one that there was":   {added(2, "x")},
		"Added over the first":            {added(0, "x")},
		"Added with a gap":                {added(4, "x")},
		"Added far beyond":                {added(maxInt, "x")},
		"Added with a gap between":        {added(3, "x"), added(5, "y")},
		"Added with From":                 {at(added(3, "x"), 1, 0)},
		"Added with From below 0":         {at(added(3, "x"), -1, 0)},
		"Added with Old":                  {at(added(3, "x"), 0, 1)},
		"Added with Old below 0":          {at(added(3, "x"), 0, -1)},
		"Added with From and Old, 0 both": {at(added(3, "x"), 1, -1)},
		"second Added with Old":           {added(3, "x"), at(added(4, "x"), 0, 1)},

		"Gone with From":                 {at(gone(2, 1), 1, 1)},
		"Gone from its end on":           {at(gone(2, 1), 1, 0)},
		"Gone with From below 0":         {at(gone(2, 1), -1, 1)},
		"Gone with too few":              {gone(2, 0)},
		"Gone with too many":             {gone(2, 2)},
		"Gone with Old below 0":          {gone(2, -1)},
		"Gone with Lines":                {with(gone(2, 1), "f")},
		"first Gone with Lines":          {with(gone(1, 2), "x"), gone(2, 1)},
		"second Gone with Lines":         {gone(1, 2), with(gone(2, 1), "x")},
		"second Gone with From":          {gone(1, 2), at(gone(2, 1), 1, 1)},
		"second Gone with too few":       {gone(1, 2), gone(2, 0)},
		"Gone of none":                   {gone(3, 0)},
		"Gone far beyond":                {gone(maxInt, 0)},
		"Gone of one, then of none":      {gone(2, 1), gone(3, 0)},
		"Gone behind Added":              {added(3, ""), gone(4, 0)},
		"Gone with one that stays":       {gone(1, 2)},
		"Gone with two that stay":        {gone(0, 3)},
		"Gone with one between":          {gone(0, 3), gone(2, 1)},
		"Gone with the last that stays":  {gone(0, 3), gone(1, 2)},
		"Gone, then Changed":             {gone(1, 2), changed(2, 0, 1, "x")},
		"Gone, then Changed to none":     {gone(1, 2), changed(2, 0, 1, "")},
		"Gone, then Changed of none":     {gone(2, 1), changed(3, 0, 0, "")},
		"Gone, then Added":               {gone(2, 1), added(3, "x")},
		"all Gone, then Added":           {gone(0, 3), gone(1, 2), gone(2, 1), added(3, "x")},
		"Gone, then Added over the next": {gone(1, 2), added(2, "x")},
		"Gone, then a kind 0":            {gone(1, 2), {Page: 2, Old: 1}},

		"right, then wrong":            {x, changed(1, 3, 0, "x")},
		"right, Added, then wrong":     {x, added(3, "x"), {Page: 4}},
		"wrong, then right":            {changed(0, 4, 0, ""), changed(1, 0, 1, "x")},
		"right, Gone, and one is left": {x, gone(1, 2)},
	}
}

// P14.4 and rule 2: each is refused, whatever is right beside it, and no pages are told.
func TestPatchRefuses(t *testing.T) {
	for name, regions := range wrongs() {
		got, e := diff.Patch(patched(), regions)
		if e != api.ErrPatch || len(got) != 0 {
			t.Errorf("%s: %v, %d", name, got, e)
		}
		holdsPatch(t, patched(), regions)
	}
	for _, r := range []api.Region{changed(0, 0, 0, ""), changed(-1, 0, 0, ""), added(1, "a"), added(-1, "a"), gone(0, 0), gone(-1, 0), {}} {
		if got, e := diff.Patch(nil, []api.Region{r}); e != api.ErrPatch || len(got) != 0 {
			t.Errorf("Patch of no pages by %v: %v, %d", r, got, e)
		}
	}
}

// small: all regions of some pages, kinds and numbers, with a line and without.
func small() []api.Region {
	var list []api.Region
	for n := -1; n <= 3; n++ {
		for kind := 0; kind <= 4; kind++ {
			for from := -1; from <= 2; from++ {
				for old := -1; old <= 2; old++ {
					r := api.Region{Page: n, Kind: kind, From: from, Old: old}
					list = append(list, r)
					r.Lines = rows("x")
					list = append(list, r)
				}
			}
		}
	}
	return list
}

// likely: the regions of small that some pages of up to two lines can have.
func likely() []api.Region {
	var list []api.Region
	for _, r := range small() {
		changes := r.Kind == api.Changed && r.From == 0 && r.Old <= 1 && r.Old >= 0 && len(r.Lines) == 1
		adds := r.Kind == api.Added && r.From == 0 && r.Old == 0
		goes := r.Kind == api.Gone && r.From == 0 && r.Old >= 0 && len(r.Lines) == 0
		if r.Page >= 0 && (changes || adds || goes) {
			list = append(list, r)
		}
	}
	return list
}

// P14.4: all lists of one region, and of up to three that could be, of small layouts.
func TestShortPatches(t *testing.T) {
	right := 0
	holds := func(list []api.Page, regions ...api.Region) {
		if _, e := holdsPatch(t, list, regions); e == api.OK {
			right++
		}
	}
	for _, list := range [][]api.Page{nil, book("a"), book("", "ab"), book("a", "b"), book("ab", "", "a")} {
		for _, r := range small() {
			holds(list, r)
		}
		for _, x := range likely() {
			for _, y := range small() {
				holds(list, x, y)
			}
			for _, y := range likely() {
				for _, z := range likely() {
					holds(list, x, y, z)
				}
			}
		}
	}
	if right < 200 {
		t.Errorf("only %d lists of regions were right", right)
	}
}

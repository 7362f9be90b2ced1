package fold_test

import (
	"math"
	"math/rand"
	"slices"
	"testing"

	"foldhouse/api"
	"foldhouse/fold"
)

// P1.2
func TestCopiesOfRows(t *testing.T) {
	r := makeRun(2, []int{2, 1}, []fold.Ribbon{{Width: 2}, {Web: 1, Width: 1, Turned: true}}, []int{0}, []int{1})
	for w := range r.Webs {
		for i := range r.Webs[w].Plates {
			r.Webs[w].Plates[i] = fold.Plate{Page: 10*w + i, Upside: i == 3}
		}
	}
	first := [][]fold.Plate{{{Page: 5}, {Page: 1}, {Page: 0}, {Page: 4}}, {{Page: 10}, {Page: 12}}}
	second := [][]fold.Plate{{{Page: 7}, {Page: 3, Upside: true}, {Page: 2}, {Page: 6}}, {{Page: 11}, {Page: 13, Upside: true}}}
	if l, e := fold.Copies(r); e != api.OK || !same(l, [][][]fold.Plate{first, second}) {
		t.Error(l, e)
	}
	if l, e := fold.Sizes(r); e != api.OK || !slices.Equal(l, []int{4, 2}) {
		t.Error(l, e)
	}
	r.Collected = true
	if l, e := fold.Copies(r); e != api.OK || !same(l, [][][]fold.Plate{{first[0], second[0], first[1], second[1]}}) {
		t.Error(l, e)
	}
	if l, e := fold.Sizes(r); e != api.OK || !slices.Equal(l, []int{4, 4, 2, 2}) {
		t.Error(l, e)
	}
}

// P1.2: right halves are read from the lowest ribbon up, left halves from the topmost one down.
func TestOrderOfHalves(t *testing.T) {
	r := makeRun(1, []int{2, 1, 1, 2}, []fold.Ribbon{{Width: 2}, {Web: 1, Width: 1}, {Web: 2, Width: 1, Left: true}, {Web: 3, Width: 2, Turned: true}}, []int{2, 0, 1, 3})
	want := []fold.Spot{
		{Web: 0, Side: 1, Col: 1}, {Web: 0, Side: 0, Col: 1},
		{Web: 1, Side: 1}, {Web: 1, Side: 0},
		{Web: 3, Side: 0, Col: 0}, {Web: 3, Side: 1, Col: 0},
		{Web: 3, Side: 1, Col: 1}, {Web: 3, Side: 0, Col: 1},
		{Web: 0, Side: 0, Col: 0}, {Web: 0, Side: 1, Col: 0},
		{Web: 2, Side: 0}, {Web: 2, Side: 1},
	}
	for i, spot := range want {
		if s, e := fold.Where(r, fold.Place{Index: i}); e != api.OK || s != spot {
			t.Error(i, s, e)
		}
		if p, e := fold.Follow(r, spot); e != api.OK || p != (fold.Place{Index: i}) {
			t.Error(i, p, e)
		}
	}
}

// P1.2
func TestNoSuchPlace(t *testing.T) {
	straight := makeRun(2, []int{2, 1}, []fold.Ribbon{{Width: 2}, {Web: 1, Width: 1}}, []int{0}, []int{1})
	collected := deepCopy(straight)
	collected.Collected = true
	for i, c := range []struct {
		r    fold.Run
		p    fold.Place
		want api.Errno
	}{
		{straight, fold.Place{Copy: 1, Section: 1, Index: 1}, api.OK},
		{straight, fold.Place{Copy: 2}, api.ErrRange},
		{straight, fold.Place{Section: 2}, api.ErrRange},
		{straight, fold.Place{Section: 1, Index: 2}, api.ErrRange},
		{straight, fold.Place{Index: 3}, api.OK},
		{straight, fold.Place{Index: 4}, api.ErrRange},
		{straight, fold.Place{Copy: -1}, api.ErrRange},
		{straight, fold.Place{Section: -1}, api.ErrRange},
		{straight, fold.Place{Index: -1}, api.ErrRange},
		{straight, fold.Place{Copy: math.MaxInt, Section: math.MinInt, Index: math.MaxInt}, api.ErrRange},
		{collected, fold.Place{Section: 3, Index: 1}, api.OK},
		{collected, fold.Place{Copy: 1}, api.ErrRange},
		{collected, fold.Place{Section: 4}, api.ErrRange},
		{collected, fold.Place{Section: 2, Index: 2}, api.ErrRange},
	} {
		if s, e := fold.Where(c.r, c.p); e != c.want || e != api.OK && s != (fold.Spot{}) {
			t.Error(i, s, e)
		}
	}
}

// P1.2
func TestNoSuchSpot(t *testing.T) {
	r := makeRun(2, []int{2, 1}, []fold.Ribbon{{Width: 2}, {Web: 1, Width: 1}}, []int{0}, []int{1})
	for i, s := range []fold.Spot{{Web: 2}, {Side: 2}, {Row: 2}, {Col: 2}, {Web: 1, Col: 1}, {Web: -1}, {Side: -1}, {Row: -1}, {Col: -1}, {Web: math.MaxInt, Col: math.MinInt}} {
		if p, e := fold.Follow(r, s); e != api.ErrRange || p != (fold.Place{}) {
			t.Error(i, p, e)
		}
	}
	if p, e := fold.Follow(r, fold.Spot{Web: 1, Side: 1, Row: 1}); e != api.OK || p != (fold.Place{Copy: 1, Section: 1}) {
		t.Error(p, e)
	}
}

// P1.2, P1.5
func TestPlacesOfAnyRun(t *testing.T) {
	anyRuns(func(r fold.Run, _ *rand.Rand) {
		want := expectedSpots(r)
		for p, spot := range want {
			if s, e := fold.Where(r, p); e != api.OK || s != spot {
				t.Errorf("%v: %v %v, not %v: %+v", p, s, e, spot, r)
			}
			if q, e := fold.Follow(r, spot); e != api.OK || q != p {
				t.Errorf("%v: %v %v, not %v: %+v", spot, q, e, p, r)
			}
		}
		copies, e := fold.Copies(r)
		if e != api.OK {
			t.Error(e)
		}
		sizes, e := fold.Sizes(r)
		if e != api.OK {
			t.Error(e)
		}
		leaves := 0
		for c, sections := range copies {
			if len(sections) != len(sizes) {
				t.Errorf("%d sections, not %d: %+v", len(sections), len(sizes), r)
			}
			for s, leafPages := range sections {
				if len(leafPages) != sizes[s] {
					t.Errorf("%d pages, not %d: %+v", len(leafPages), sizes[s], r)
				}
				for i, plate := range leafPages {
					leaves++
					if plate != *plateOf(r, want[fold.Place{Copy: c, Section: s, Index: i}]) {
						t.Errorf("%d %d %d: %v: %+v", c, s, i, plate, r)
					}
				}
			}
		}
		if plates := len(allSpots(r)); leaves != plates || len(want) != plates {
			t.Errorf("%d leaf pages of %d plates: %+v", leaves, plates, r)
		}
	})
}

package impose_test

import (
	"math"
	"math/rand"
	"slices"
	"testing"

	"foldhouse/api"
	"foldhouse/fold"
	"foldhouse/impose"
)

// twoSections returns a job with towers of 2, 4 and 3 columns and sections of 4 and 6 pages, and a plan for it without the second tower.
func twoSections(rows int) (impose.Job, impose.Plan) {
	j := impose.Job{Towers: []impose.Tower{plain(2), quick(4), tower(3, true, false)}, Rows: rows, Sections: [][]impose.Leaf{leaves(4), leaves(6)}}
	p := impose.Plan{Cols: []int{2, 0, 3}, Stacks: [][]impose.Slot{{{Turned: true}}, {{Tower: 2, Ribbon: 1}, {Tower: 2}}}}
	return j, p
}

// pagesOf returns the pages on the plates of a web.
func pagesOf(w fold.Web) []int {
	var l []int
	for _, p := range w.Plates {
		l = append(l, p.Page)
	}
	return l
}

// P2.2: the run has the webs, ribbons, stacks and pages of the plan.
func TestBuild(t *testing.T) {
	j, p := twoSections(1)
	run, e := impose.Build(j, p)
	if e != api.OK {
		t.Fatal(e)
	}
	if want := []fold.Ribbon{{Width: 2, Turned: true}, {Web: 1, Width: 2}, {Web: 1, Col: 2, Width: 1}}; !same(run.Ribbons, want) {
		t.Error(run.Ribbons)
	}
	if want := [][]int{{0}, {2, 1}}; !same(run.Stacks, want) || run.Collected {
		t.Error(run.Stacks, run.Collected)
	}
	if len(run.Webs) != 2 || run.Webs[0].Cols != 2 || run.Webs[1].Cols != 3 || run.Webs[0].Rows != 1 || run.Webs[1].Rows != 1 {
		t.Fatal(run.Webs)
	}
	if !slices.Equal(pagesOf(run.Webs[0]), []int{1, 4, 2, 3}) || !slices.Equal(pagesOf(run.Webs[1]), []int{9, 8, 6, 10, 7, 5}) {
		t.Error(run.Webs)
	}
}

// P2.2: both copies of two rows are filled; a collected copy has the pages of both rows.
func TestBuildRows(t *testing.T) {
	j, p := twoSections(2)
	run, _ := impose.Build(j, p)
	if !slices.Equal(pagesOf(run.Webs[0]), []int{1, 4, 1, 4, 2, 3, 2, 3}) {
		t.Error(run.Webs[0])
	}
	j.Collected, j.Sections = true, [][]impose.Leaf{leaves(4), leaves(4), leaves(6), leaves(6)}
	run, e := impose.Build(j, p)
	if e != api.OK || !run.Collected || !slices.Equal(pagesOf(run.Webs[0]), []int{1, 4, 5, 8, 2, 3, 6, 7}) {
		t.Error(run.Webs[0], e)
	}
	if is, _ := fold.Right(run, [][]int{{1, 2, 3, 4}, {5, 6, 7, 8}, {9, 10, 11, 12, 13, 14}, {15, 16, 17, 18, 19, 20}}); !is {
		t.Error(run)
	}
}

// P2.2: the errors of a plan.
func TestBuildErrors(t *testing.T) {
	for i, c := range []struct {
		want   api.Errno
		change func(p *impose.Plan)
	}{
		{api.OK, func(p *impose.Plan) {}},
		{api.ErrArg, func(p *impose.Plan) { p.Cols = nil }},
		{api.ErrArg, func(p *impose.Plan) { p.Cols = []int{2, 0} }},
		{api.ErrArg, func(p *impose.Plan) { p.Cols = []int{2, 0, 3, 0} }},
		{api.ErrArg, func(p *impose.Plan) { p.Cols[0] = 3 }},
		{api.ErrArg, func(p *impose.Plan) { p.Cols[1] = -1 }},
		{api.ErrArg, func(p *impose.Plan) { p.Cols[1] = 5 }},
		{api.ErrArg, func(p *impose.Plan) { p.Cols[1] = math.MinInt }},
		{api.ErrArg, func(p *impose.Plan) { p.Cols[1] = math.MaxInt }},
		{api.ErrArg, func(p *impose.Plan) { p.Stacks[1][1].Tower = 3 }},
		{api.ErrArg, func(p *impose.Plan) { p.Stacks[1][1].Tower = -1 }},
		{api.ErrArg, func(p *impose.Plan) { p.Stacks[1][1].Tower = 1 }},
		{api.ErrArg, func(p *impose.Plan) { p.Stacks[1][1].Tower = math.MaxInt }},
		{api.ErrArg, func(p *impose.Plan) { p.Stacks[1][1].Ribbon = 2 }},
		{api.ErrArg, func(p *impose.Plan) { p.Stacks[1][1].Ribbon = -1 }},
		{api.ErrArg, func(p *impose.Plan) { p.Stacks[1][1].Ribbon = math.MinInt }},
		{api.ErrArg, func(p *impose.Plan) { p.Stacks[0][0].Ribbon = 1 }},
		{api.ErrArg, func(p *impose.Plan) { p.Cols[0] = 0 }},
		// The web of two columns has one ribbon left.
		{api.ErrArg, func(p *impose.Plan) { p.Cols[2] = 2 }},
		// Also where the run is not right.
		{api.ErrArg, func(p *impose.Plan) { p.Stacks = [][]impose.Slot{nil, {{Tower: 7}}} }},
		{api.ErrImpose, func(p *impose.Plan) { p.Stacks = nil }},
		{api.ErrImpose, func(p *impose.Plan) { p.Stacks[0] = nil }},
		{api.ErrImpose, func(p *impose.Plan) { p.Cols, p.Stacks = []int{0, 0, 0}, nil }},
		{api.ErrImpose, func(p *impose.Plan) { p.Stacks = p.Stacks[:1] }},
		{api.ErrImpose, func(p *impose.Plan) { p.Stacks = append(p.Stacks, nil) }},
		{api.ErrImpose, func(p *impose.Plan) { p.Stacks[1] = p.Stacks[1][:1] }},
		{api.ErrImpose, func(p *impose.Plan) { p.Stacks[1] = append(p.Stacks[1], impose.Slot{}) }},
		{api.ErrImpose, func(p *impose.Plan) { p.Stacks[1][1].Ribbon = 1 }},
		{api.ErrImpose, func(p *impose.Plan) { p.Cols[1] = 1 }},
		{api.ErrImpose, func(p *impose.Plan) { p.Stacks[0], p.Stacks[1] = p.Stacks[1], p.Stacks[0] }},
		{api.ErrImpose, func(p *impose.Plan) { p.Stacks = [][]impose.Slot{slices.Concat(p.Stacks[0], p.Stacks[1])} }},
		{api.ErrImpose, func(p *impose.Plan) { p.Stacks = append(p.Stacks[:1], p.Stacks[1][:1], p.Stacks[1][1:]) }},
		{api.ErrImpose, func(p *impose.Plan) { p.Stacks = slices.Repeat(p.Stacks, 4) }},
	} {
		j, p := twoSections(1)
		c.change(&p)
		run, e := impose.Build(j, p)
		_, value := impose.Value(j, p)
		_, why := impose.Why(j, p)
		_, pages := impose.Pages(j, p, 0)
		if e != c.want || value != c.want || why != c.want || pages != c.want {
			t.Error(i, e, value, why, pages, c.want)
		}
		if e != api.OK && !same(run, fold.Run{}) {
			t.Error(i, run)
		}
		if _, both := impose.Pages(j, p, 9); c.want != api.OK && both != c.want {
			t.Error(i, both)
		}
	}
}

// P2.2: a page is named once for all that it lacks, in order.
func TestWhy(t *testing.T) {
	j, p := twoSections(2)
	p.Stacks[0][0].Turned = false
	j.Sections[0] = []impose.Leaf{{Colour: true, Late: true}, {}, {Late: true}, {Colour: true}}
	j.Sections[1] = []impose.Leaf{{Colour: true}, {Colour: true}, {Late: true}, {}, {}, {Colour: true}}
	j.Panoramas = []impose.Spread{{Section: 1, Index: 4}, {Section: 1, Index: 3}, {Section: 1, Index: 2}, {Index: 1}, {Index: 0}, {Section: 1, Index: 4}}
	want := []impose.Spread{{}, {Index: 2}, {Index: 3}, {Section: 1}, {Section: 1, Index: 2}, {Section: 1, Index: 4}, {Section: 1, Index: 5}}
	l, e := impose.Why(j, p)
	if e != api.OK || !slices.Equal(l, want) {
		t.Error(l, e)
	}
	if c, e := impose.Value(j, p); e != api.ErrColour || c != (impose.Cost{}) {
		t.Error(c, e)
	}
}

// P2.2: a page that is late, or a panorama, makes a plan not allowed as colour does.
func TestNotAllowed(t *testing.T) {
	j, p := twoSections(1)
	if c, e := impose.Value(j, p); e != api.OK || c != (impose.Cost{Webs: 2, Plates: 10, Turned: 1}) {
		t.Error(c, e)
	}
	late, torn, colour := copyOf(j), copyOf(j), copyOf(j)
	late.Sections[0][0].Late = true
	torn.Panoramas = []impose.Spread{{Section: 1, Index: 2}}
	colour.Sections[0][0].Colour = true
	for i, l := range []impose.Job{late, torn, colour} {
		if _, e := impose.Value(l, p); e != api.ErrColour {
			t.Error(i, e)
		}
	}
	ganged := copyOf(j)
	ganged.Panoramas = []impose.Spread{{Section: 1, Index: 3}, {Index: 1}}
	if l, e := impose.Why(ganged, p); e != api.OK || len(l) > 0 {
		t.Error(l, e)
	}
}

// P2.2: Why and Value say what the run itself says.
func TestWhyOfAnyPlan(t *testing.T) {
	rnd := rand.New(rand.NewSource(1))
	built, allowed := 0, 0
	for range 20000 {
		j := anyJob(rnd, 3, 4)
		p := anyPlan(j, rnd)
		want, is := faultsOf(j, p)
		l, e := impose.Why(j, p)
		c, value := impose.Value(j, p)
		if !is {
			if e != api.ErrImpose || value != api.ErrImpose {
				t.Error(e, value, j, p)
			}
			continue
		}
		built++
		if e != api.OK || !slices.Equal(l, want) {
			t.Error(l, want, e, j, p)
		}
		if len(want) > 0 {
			if value != api.ErrColour {
				t.Error(value, j, p)
			}
			continue
		}
		allowed++
		if value != api.OK || c != costOf(j, p) {
			t.Error(c, value, j, p)
		}
	}
	if built < 1000 || allowed < 200 {
		t.Error(built, allowed)
	}
}

// P2.2: costs are compared by webs, then plates, then turned slots.
func TestCompare(t *testing.T) {
	var l []impose.Cost
	for _, webs := range []int{math.MinInt, 0, 1, 3} {
		for _, plates := range []int{-1, 0, 4, math.MaxInt} {
			for turned := range 3 {
				l = append(l, impose.Cost{Webs: webs, Plates: plates, Turned: turned})
			}
		}
	}
	for i, a := range l {
		for k, b := range l {
			want := 0
			if i < k {
				want = -1
			} else if i > k {
				want = 1
			}
			if got := impose.Compare(a, b); got != want {
				t.Error(a, b, got)
			}
		}
	}
}

// P2.3: each page is printed by just one tower.
func TestPages(t *testing.T) {
	for _, rows := range []int{1, 2} {
		j, p := twoSections(rows)
		for tower, want := range [][]int{{1, 2, 3, 4}, nil, {5, 6, 7, 8, 9, 10}} {
			if l, e := impose.Pages(j, p, tower); e != api.OK || !slices.Equal(l, want) {
				t.Error(rows, tower, l, e)
			}
		}
		for _, tower := range []int{-1, 3, math.MinInt, math.MaxInt} {
			if l, e := impose.Pages(j, p, tower); e != api.ErrArg || l != nil {
				t.Error(tower, l, e)
			}
		}
	}
	// The sections share a tower.
	j := straight(leaves(4), quick(4))
	j.Sections = append(j.Sections, leaves(4))
	p := impose.Plan{Cols: []int{4}, Stacks: [][]impose.Slot{{{Ribbon: 1}}, {{}}}}
	if l, e := impose.Pages(j, p, 0); e != api.OK || !slices.Equal(l, []int{1, 2, 3, 4, 5, 6, 7, 8}) {
		t.Error(l, e)
	}
	// The pages of a tower need not follow each other.
	j = straight(leaves(6), plain(1), plain(2))
	p = impose.Plan{Cols: []int{1, 2}, Stacks: [][]impose.Slot{{{Tower: 1}, {}}}}
	if l, e := impose.Pages(j, p, 1); e != api.OK || !slices.Equal(l, []int{1, 2, 5, 6}) {
		t.Error(l, e)
	}
}

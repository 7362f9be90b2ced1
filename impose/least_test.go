package impose_test

import (
	"math"
	"math/rand"
	"slices"
	"testing"

	"foldhouse/api"
	"foldhouse/fold"
	"foldhouse/impose"
)

// expectLeast checks the least plan of a job. The cost tells it that there is none if it has no web.
func expectLeast(t *testing.T, j impose.Job, want impose.Plan, cost impose.Cost) {
	t.Helper()
	p, c, e := impose.Least(j)
	if cost == (impose.Cost{}) {
		if e != api.ErrNone || !same(p, impose.Plan{}) || c != cost {
			t.Error(p, c, e)
		}
		return
	}
	if e != api.OK || !samePlan(p, want) || c != cost {
		t.Error(p, c, e)
	}
}

// P2.3: the chapter's example 1.
func TestColourExample(t *testing.T) {
	lower := tower(2, false, true)
	plan := func(turned bool) impose.Plan {
		return impose.Plan{Cols: []int{2}, Stacks: [][]impose.Slot{{{Turned: turned}}}}
	}
	expectLeast(t, straight(leaves(4, 0, 3), lower), plan(false), impose.Cost{Webs: 1, Plates: 4})
	expectLeast(t, straight(leaves(4, 1, 2), lower), plan(true), impose.Cost{Webs: 1, Plates: 4, Turned: 1})
	expectLeast(t, straight(leaves(4, 0, 1), lower), impose.Plan{}, impose.Cost{})
}

// P2.3: the chapter's example 2.
func TestTowersExample(t *testing.T) {
	j := straight(leaves(8), plain(4), plain(4))
	expectLeast(t, j, impose.Plan{Cols: []int{0, 4}, Stacks: [][]impose.Slot{{{Tower: 1}, {Tower: 1, Ribbon: 1}}}}, impose.Cost{Webs: 1, Plates: 8})
	j.Sections[0][5].Late, j.Towers[0].Quick = true, true
	expectLeast(t, j, impose.Plan{Cols: []int{4, 0}, Stacks: [][]impose.Slot{{{}, {Ribbon: 1}}}}, impose.Cost{Webs: 1, Plates: 8})
}

// P2.3: the chapter's example 3.
func TestPanoramaExample(t *testing.T) {
	j := straight(leaves(6), plain(4))
	expectLeast(t, j, impose.Plan{Cols: []int{3}, Stacks: [][]impose.Slot{{{}, {Ribbon: 1}}}}, impose.Cost{Webs: 1, Plates: 6})
	j.Panoramas = []impose.Spread{{Index: 2}}
	expectLeast(t, j, impose.Plan{}, impose.Cost{})
	j.Panoramas = []impose.Spread{{Index: 3}}
	expectLeast(t, j, impose.Plan{Cols: []int{3}, Stacks: [][]impose.Slot{{{Ribbon: 1}, {}}}}, impose.Cost{Webs: 1, Plates: 6})
}

// P2.3: fewer webs count more than fewer turned slots, and of the same numbers the first plan is returned.
func TestLeastOrder(t *testing.T) {
	// With two webs no ribbon would have to be turned.
	lower := tower(4, false, true)
	j := straight(leaves(8, 1), lower, tower(2, true, false), tower(2, false, false))
	expectLeast(t, j, impose.Plan{Cols: []int{4, 0, 0}, Stacks: [][]impose.Slot{{{Turned: true}, {Ribbon: 1}}}}, impose.Cost{Webs: 1, Plates: 8, Turned: 1})
	// The ribbon that is turned is as late as it can be.
	j = straight(leaves(8), tower(4, false, true))
	j.Sections[0][2].Colour, j.Sections[0][3].Colour = true, false
	expectLeast(t, j, impose.Plan{Cols: []int{4}, Stacks: [][]impose.Slot{{{}, {Ribbon: 1}}}}, impose.Cost{Webs: 1, Plates: 8})
	// Two webs are needed: 1, 4 and 2, 3 and 3, 2 and 4, 1 have the columns.
	j = straight(leaves(10), plain(4), plain(4))
	expectLeast(t, j, impose.Plan{Cols: []int{1, 4}, Stacks: [][]impose.Slot{{{}, {Tower: 1}, {Tower: 1, Ribbon: 1}}}}, impose.Cost{Webs: 2, Plates: 10})
}

// P2.3: the sections of a collected job have one stack, which must do for both.
func TestLeastCollected(t *testing.T) {
	j := impose.Job{Towers: []impose.Tower{tower(4, true, false)}, Rows: 2, Collected: true, Sections: [][]impose.Leaf{leaves(8, 1), leaves(8, 2)}}
	expectLeast(t, j, impose.Plan{Cols: []int{4}, Stacks: [][]impose.Slot{{{}, {Ribbon: 1, Turned: true}}}}, impose.Cost{Webs: 1, Plates: 16, Turned: 1})
	j.Sections[1][0].Colour = true
	expectLeast(t, j, impose.Plan{}, impose.Cost{})
	j = largest()
	if p, c, e := impose.Least(j); e != api.OK || !slices.Equal(p.Cols, []int{4, 4, 4}) || c != (impose.Cost{Webs: 3, Plates: 48}) {
		t.Error(p, c, e)
	}
	j.Sections[1] = leaves(24)
	j.Panoramas = []impose.Spread{{Section: 1, Index: 11}}
	if p, c, e := impose.Least(j); e != api.OK || len(p.Stacks) != 1 || c != (impose.Cost{Webs: 3, Plates: 48}) {
		t.Error(p, c, e)
	}
	j.Panoramas[0].Index = 10
	expectLeast(t, j, impose.Plan{}, impose.Cost{})
}

// P2.3: a section with an odd number of pages has no plan, and neither have two of them.
func TestLeastOdd(t *testing.T) {
	j := straight(leaves(3), quick(4), quick(4))
	expectLeast(t, j, impose.Plan{}, impose.Cost{})
	j.Sections = [][]impose.Leaf{leaves(3), leaves(3)}
	expectLeast(t, j, impose.Plan{}, impose.Cost{})
	j.Sections = [][]impose.Leaf{leaves(18)}
	expectLeast(t, j, impose.Plan{}, impose.Cost{})
}

// leastOfAll returns the first allowed plan of least cost, from all plans.
func leastOfAll(j impose.Job) (impose.Plan, bool) {
	var best impose.Plan
	found := false
	everyPlan(j, func(p impose.Plan) {
		if found && comparePlans(j, p, best) >= 0 {
			return
		}
		if l, is := faultsOf(j, p); is && len(l) == 0 {
			best, found = planCopy(p), true
		}
	})
	return best, found
}

// P2.3, P2.4: no allowed plan is less than that of Least; if there is none, no plan is allowed.
func TestLeastOfAllPlans(t *testing.T) {
	rnd := rand.New(rand.NewSource(2))
	none, turned := 0, 0
	for i := range 2000 {
		towers, cols := 2, 4
		if i%3 == 0 {
			towers, cols = 3, 2
		}
		j := anyJob(rnd, towers, cols)
		want, is := leastOfAll(j)
		p, c, e := impose.Least(j)
		if !is {
			none++
			if e != api.ErrNone || !same(p, impose.Plan{}) || c != (impose.Cost{}) {
				t.Errorf("%v %v %v, not none: %+v", p, c, e, j)
			}
			continue
		}
		if e != api.OK || !samePlan(p, want) || c != costOf(j, want) {
			t.Errorf("%v %v %v, not %v: %+v", p, c, e, want, j)
		}
		turned += min(c.Turned, 1)
	}
	if none < 200 || turned < 100 {
		t.Error(none, turned)
	}
}

// P2.4: a plan that Least returns prints the pages in order, each with one tower, and with less to do there is no more to pay.
func TestLeastPlans(t *testing.T) {
	rnd := rand.New(rand.NewSource(3))
	for range 3000 {
		j := anyJob(rnd, 3, 4)
		p, c, e := impose.Least(j)
		checkLess(t, j, c, e)
		if e != api.OK {
			continue
		}
		if value, e := impose.Value(j, p); e != api.OK || value != c {
			t.Errorf("%v %v, not %v: %+v", value, e, c, j)
		}
		run, _ := impose.Build(j, p)
		page := 0
		var product [][]int
		for _, section := range j.Sections {
			var l []int
			for range section {
				page++
				l = append(l, page)
			}
			product = append(product, l)
		}
		if is, e := fold.Right(run, product); !is || e != api.OK {
			t.Errorf("%v: %+v", e, j)
		}
		var printed []int
		for tower := range j.Towers {
			l, _ := impose.Pages(j, p, tower)
			printed = append(printed, l...)
		}
		slices.Sort(printed)
		if len(printed) != page || printed[0] != 1 || len(slices.Compact(printed)) != page {
			t.Errorf("%v: %+v", printed, j)
		}
	}
}

// checkLess checks the least costs with a tower less, without a panorama, and with pages that need less.
func checkLess(t *testing.T, j impose.Job, c impose.Cost, e api.Errno) {
	t.Helper()
	for tower := range j.Towers {
		if len(j.Towers) == 1 {
			break
		}
		less, _ := impose.Without(j, tower)
		if _, d, f := impose.Least(less); f == api.OK && (e != api.OK || impose.Compare(d, c) < 0) {
			t.Errorf("%v %v with a tower less, %v %v: %+v", d, f, c, e, j)
		}
	}
	var easier []impose.Job
	if len(j.Panoramas) > 0 {
		l := copyOf(j)
		l.Panoramas = l.Panoramas[1:]
		easier = append(easier, l)
	}
	l := copyOf(j)
	for i := range l.Sections[0] {
		l.Sections[0][i].Colour = false
	}
	easier = append(easier, l)
	l = copyOf(j)
	l.Sections[0][0].Late = false
	easier = append(easier, l)
	for _, l := range easier {
		if _, d, f := impose.Least(l); e == api.OK && (f != api.OK || impose.Compare(d, c) > 0) {
			t.Errorf("%v %v with less, %v %v: %+v", d, f, c, e, j)
		}
	}
}

// P2.3: a job without a tower.
func TestWithout(t *testing.T) {
	j, _ := twoSections(2)
	j.Panoramas = []impose.Spread{{Section: 1}}
	for tower := range 3 {
		want := copyOf(j)
		want.Towers = slices.Delete(want.Towers, tower, tower+1)
		got, e := impose.Without(j, tower)
		if e != api.OK || !same(got, want) {
			t.Error(tower, got, e)
		}
	}
	for _, tower := range []int{-1, 3, math.MinInt, math.MaxInt} {
		if got, e := impose.Without(j, tower); e != api.ErrArg || !same(got, impose.Job{}) {
			t.Error(tower, got, e)
		}
	}
	one := straight(leaves(4), plain(2))
	for _, tower := range []int{0, 1, -1} {
		if got, e := impose.Without(one, tower); e != api.ErrArg || !same(got, impose.Job{}) {
			t.Error(tower, got, e)
		}
	}
}

// P2.3: the needs of a job.
func TestNeeds(t *testing.T) {
	section := []impose.Leaf{{Colour: true}, {Late: true}, {Colour: true, Late: true}, {Colour: true}}
	j := straight(section, plain(1))
	for i, c := range []struct {
		rows      int
		collected bool
		sections  [][]impose.Leaf
		want      []int
	}{
		{1, false, [][]impose.Leaf{section}, []int{4, 3, 2, 2}},
		{2, false, [][]impose.Leaf{section, leaves(6)}, []int{10, 3, 2, 5}},
		{2, true, [][]impose.Leaf{section, leaves(4)}, []int{8, 3, 2, 2}},
		{2, true, [][]impose.Leaf{leaves(5), leaves(5, 4)}, []int{10, 1, 0, 3}},
		{2, true, [][]impose.Leaf{leaves(24), leaves(24), leaves(24), leaves(24), leaves(24), leaves(24)}, []int{144, 0, 0, 36}},
		{1, false, [][]impose.Leaf{leaves(3)}, []int{3, 0, 0, 2}},
		{1, false, [][]impose.Leaf{leaves(3), leaves(3)}, []int{6, 0, 0, 3}},
		{1, false, [][]impose.Leaf{leaves(3), leaves(3), leaves(3)}, []int{9, 0, 0, 5}},
	} {
		j.Rows, j.Collected, j.Sections = c.rows, c.collected, c.sections
		if l, e := impose.Needs(j); e != api.OK || !slices.Equal(l, c.want) {
			t.Error(i, l, e)
		}
	}
	if l, e := impose.Needs(impose.Job{}); e != api.ErrMany || l != nil {
		t.Error(l, e)
	}
}

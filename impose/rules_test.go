package impose_test

import (
	"math"
	"math/rand"
	"slices"
	"testing"

	"foldhouse/api"
	"foldhouse/fold"
	"foldhouse/impose"
)

// spoilJob changes all that a job refers to.
func spoilJob(j impose.Job) {
	for _, t := range j.Towers {
		for _, side := range t.Colour {
			for i := range side {
				side[i] = !side[i]
			}
		}
	}
	clear(j.Towers)
	for _, section := range j.Sections {
		for i := range section {
			section[i] = impose.Leaf{Colour: true, Late: true}
		}
	}
	clear(j.Sections)
	for i := range j.Panoramas {
		j.Panoramas[i] = impose.Spread{Section: 9, Index: 9}
	}
}

// spoilPlan changes all that a plan refers to.
func spoilPlan(p impose.Plan) {
	for i := range p.Cols {
		p.Cols[i] = -7
	}
	for _, stack := range p.Stacks {
		for i := range stack {
			stack[i] = impose.Slot{Tower: -7}
		}
	}
	clear(p.Stacks)
}

// R4: no argument is changed, and no result shares memory with one.
func TestMemory(t *testing.T) {
	rnd := rand.New(rand.NewSource(4))
	for range 300 {
		j := anyJob(rnd, 3, 4)
		before := copyOf(j)
		p, _, e := impose.Least(j)
		if e != api.OK {
			p = anyPlan(j, rnd)
		}
		plan := planCopy(p)
		run, _ := impose.Build(j, p)
		less, _ := impose.Without(j, 0)
		spreads, _ := impose.Why(j, p)
		impose.Value(j, p)
		impose.Pages(j, p, 0)
		impose.Needs(j)
		spoilJob(less)
		clear(spreads)
		for _, w := range run.Webs {
			clear(w.Plates)
		}
		for _, stack := range run.Stacks {
			clear(stack)
		}
		if !samePlan(p, plan) {
			t.Errorf("%v, not %v", p, plan)
		}
		if e == api.OK {
			spoilPlan(p)
			if again, _, _ := impose.Least(j); !samePlan(again, plan) {
				t.Errorf("%v, not %v", again, plan)
			}
		}
		if !same(j, before) {
			t.Errorf("%+v, not %+v", j, before)
		}
	}
}

// R4: the parts of a result share no memory, though those of the argument do.
func TestPartsOfResult(t *testing.T) {
	side := []bool{true, true}
	section := leaves(4)
	j := impose.Job{Towers: slices.Repeat([]impose.Tower{{Cols: 2, Colour: [2][]bool{side, side}}}, 3), Rows: 1, Sections: [][]impose.Leaf{section, section}}
	less, e := impose.Without(j, 1)
	if e != api.OK {
		t.Fatal(e)
	}
	less.Sections[0][0].Colour = true
	less.Towers[0].Colour[0][0] = false
	if less.Sections[1][0].Colour || !less.Towers[0].Colour[1][0] || !less.Towers[1].Colour[0][0] || !side[0] {
		t.Error(less)
	}
}

// R3: nil and empty lists are the same.
func TestNilAndEmpty(t *testing.T) {
	j, p := twoSections(1)
	j.Panoramas = []impose.Spread{}
	if c, e := impose.Value(j, p); e != api.OK || c.Webs != 2 {
		t.Error(c, e)
	}
	p.Stacks = [][]impose.Slot{{}, {}}
	if _, e := impose.Build(j, p); e != api.ErrImpose {
		t.Error(e)
	}
}

// anyNumber returns a number that is mostly near the limits.
func anyNumber(rnd *rand.Rand) int {
	l := []int{0, 0, 0, 1, 1, 2, 3, 4, 5, -1, 24, 25, math.MaxInt, math.MinInt}
	return l[rnd.Intn(len(l))]
}

// twist changes a job, or not.
func twist(j *impose.Job, rnd *rand.Rand) {
	tower, section := &j.Towers[rnd.Intn(len(j.Towers))], rnd.Intn(len(j.Sections))
	switch rnd.Intn(16) {
	case 0:
		tower.Cols = anyNumber(rnd)
	case 1:
		tower.Colour[rnd.Intn(2)] = make([]bool, rnd.Intn(5))
	case 2:
		j.Rows = anyNumber(rnd)
	case 3:
		j.Collected = !j.Collected
	case 4:
		j.Sections[section] = leaves(rnd.Intn(30))
	case 5:
		j.Panoramas = append(j.Panoramas, impose.Spread{Section: anyNumber(rnd), Index: anyNumber(rnd)})
	}
}

// twistPlan changes a plan, or not.
func twistPlan(p *impose.Plan, rnd *rand.Rand) {
	stack := rnd.Intn(max(len(p.Stacks), 1))
	switch rnd.Intn(10) {
	case 0:
		p.Cols = append(p.Cols, anyNumber(rnd))
	case 1:
		p.Cols[rnd.Intn(len(p.Cols))] = anyNumber(rnd)
	case 2:
		p.Stacks = append(p.Stacks, []impose.Slot{{Tower: anyNumber(rnd), Ribbon: anyNumber(rnd)}})
	case 3:
		if len(p.Stacks) > 0 {
			p.Stacks[stack] = append(p.Stacks[stack], impose.Slot{Tower: anyNumber(rnd), Ribbon: anyNumber(rnd)})
		}
	}
}

// P8: no function panics, and with an error there is no result.
func TestAnyArguments(t *testing.T) {
	rnd := rand.New(rand.NewSource(5))
	for range 5000 {
		j := anyJob(rnd, 3, 4)
		p := anyPlan(j, rnd)
		twist(&j, rnd)
		twistPlan(&p, rnd)
		n := anyNumber(rnd)
		want := impose.Check(j)
		run, build := impose.Build(j, p)
		cost, value := impose.Value(j, p)
		spreads, why := impose.Why(j, p)
		pages, printed := impose.Pages(j, p, n)
		less, without := impose.Without(j, n)
		plan, least, none := impose.Least(j)
		for i, e := range []api.Errno{build, value, why, printed, without, none} {
			if want != api.OK && e != want {
				t.Errorf("%v %v, not %v: %+v", i, e, want, j)
			}
		}
		if build != api.OK && !same(run, fold.Run{}) || value != api.OK && cost != (impose.Cost{}) || why != api.OK && spreads != nil || printed != api.OK && pages != nil {
			t.Errorf("%+v %+v", j, p)
		}
		if without != api.OK && !same(less, impose.Job{}) || none != api.OK && (!same(plan, impose.Plan{}) || least != (impose.Cost{})) {
			t.Errorf("%+v", j)
		}
	}
}

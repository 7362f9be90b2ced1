package impose_test

import (
	"cmp"
	"math/rand"
	"reflect"
	"slices"

	"foldhouse/api"
	"foldhouse/fold"
	"foldhouse/impose"
)

// tower returns a tower with so many columns, in colour on some sides.
func tower(cols int, upper, lower bool) impose.Tower {
	return impose.Tower{Cols: cols, Colour: [2][]bool{slices.Repeat([]bool{upper}, cols), slices.Repeat([]bool{lower}, cols)}}
}

// plain returns a tower without colour.
func plain(cols int) impose.Tower { return tower(cols, false, false) }

// quick returns a quick tower in colour.
func quick(cols int) impose.Tower {
	t := tower(cols, true, true)
	t.Quick = true
	return t
}

// leaves returns a section, of which some pages need colour.
func leaves(n int, colour ...int) []impose.Leaf {
	l := make([]impose.Leaf, n)
	for _, i := range colour {
		l[i].Colour = true
	}
	return l
}

// straight returns a job with one row, and one section.
func straight(section []impose.Leaf, towers ...impose.Tower) impose.Job {
	return impose.Job{Towers: towers, Rows: 1, Sections: [][]impose.Leaf{section}}
}

// largest returns a job of three quick towers of 4 columns, collected, with 24 pages in each of two sections, all of which need all.
func largest() impose.Job {
	section := slices.Repeat([]impose.Leaf{{Colour: true, Late: true}}, 24)
	return impose.Job{Towers: []impose.Tower{quick(4), quick(4), quick(4)}, Rows: 2, Collected: true, Sections: [][]impose.Leaf{section, slices.Clone(section)}}
}

// anyJob returns a right job that the random numbers choose, with towers of at most so many columns.
func anyJob(rnd *rand.Rand, towers, cols int) impose.Job {
	j := impose.Job{Rows: 1 + rnd.Intn(2)}
	j.Collected = j.Rows == 2 && rnd.Intn(2) == 0
	room := 0
	for range 1 + rnd.Intn(towers) {
		t := plain(1 + rnd.Intn(cols))
		odds := [2]int{rnd.Intn(4), 4}
		rnd.Shuffle(2, func(i, k int) { odds[i], odds[k] = odds[k], odds[i] })
		for n, side := range t.Colour {
			for i := range side {
				side[i] = rnd.Intn(4) < odds[n]
			}
		}
		t.Quick = rnd.Intn(4) > 0
		j.Towers = append(j.Towers, t)
		room += t.Cols
	}
	for n := range 1 + rnd.Intn(impose.MaxStacks) {
		if room <= 0 && rnd.Intn(10) > 0 {
			break
		}
		pages := 2 * (1 + rnd.Intn(max(1, room/(1+n))))
		if rnd.Intn(20) == 0 {
			pages++
		}
		room -= pages / 2
		addSections(&j, rnd, pages)
	}
	for range rnd.Intn(2) * rnd.Intn(3) {
		s := rnd.Intn(len(j.Sections))
		i := len(j.Sections[s])/2 - 1
		if rnd.Intn(3) == 0 {
			i = rnd.Intn(len(j.Sections[s]) - 1)
		}
		j.Panoramas = append(j.Panoramas, impose.Spread{Section: s, Index: i})
	}
	return j
}

// addSections adds the sections of one stack.
func addSections(j *impose.Job, rnd *rand.Rand, pages int) {
	for range map[bool]int{false: 1, true: 2}[j.Collected] {
		section := leaves(pages)
		for i := range section {
			section[i] = impose.Leaf{Colour: rnd.Intn(8) == 0, Late: rnd.Intn(16) == 0}
		}
		j.Sections = append(j.Sections, section)
	}
}

// copyOf returns a job that is equal to j and shares no memory with it.
func copyOf(j impose.Job) impose.Job {
	out := j
	out.Panoramas = slices.Clone(j.Panoramas)
	out.Towers = slices.Clone(j.Towers)
	for i := range out.Towers {
		for side := range 2 {
			out.Towers[i].Colour[side] = slices.Clone(j.Towers[i].Colour[side])
		}
	}
	out.Sections = slices.Clone(j.Sections)
	for i := range out.Sections {
		out.Sections[i] = slices.Clone(j.Sections[i])
	}
	return out
}

// planCopy returns a plan that is equal to p and shares no memory with it.
func planCopy(p impose.Plan) impose.Plan {
	out := impose.Plan{Cols: slices.Clone(p.Cols), Stacks: slices.Clone(p.Stacks)}
	for i := range out.Stacks {
		out.Stacks[i] = slices.Clone(p.Stacks[i])
	}
	return out
}

// slot is a ribbon of a plan, as the tests number it, with its width.
type slot struct {
	impose.Slot
	width int
}

// slotsOf returns the ribbons of webs of these columns.
func slotsOf(cols []int) []slot {
	var out []slot
	for t, n := range cols {
		for r := 0; n > 0; r++ {
			out = append(out, slot{impose.Slot{Tower: t, Ribbon: r}, min(n, 2)})
			n -= 2
		}
	}
	return out
}

// runOf returns the run of a plan, without its pages, as the chapter describes it.
func runOf(j impose.Job, p impose.Plan) fold.Run {
	run := fold.Run{Collected: j.Collected}
	number := map[[2]int]int{}
	webs := map[int]int{}
	for t, n := range p.Cols {
		if n > 0 {
			webs[t] = len(run.Webs)
			run.Webs = append(run.Webs, fold.Web{Cols: n, Rows: j.Rows, Plates: make([]fold.Plate, 2*n*j.Rows)})
		}
	}
	for i, s := range slotsOf(p.Cols) {
		number[[2]int{s.Tower, s.Ribbon}] = i
		run.Ribbons = append(run.Ribbons, fold.Ribbon{Web: webs[s.Tower], Col: 2 * s.Ribbon, Width: s.width})
	}
	for _, l := range p.Stacks {
		var stack []int
		for _, s := range l {
			i := number[[2]int{s.Tower, s.Ribbon}]
			run.Ribbons[i].Turned = s.Turned
			stack = append(stack, i)
		}
		run.Stacks = append(run.Stacks, stack)
	}
	return run
}

// towerOf returns the number of the tower with a web.
func towerOf(p impose.Plan, web int) int {
	for t, n := range p.Cols {
		if n > 0 && web == 0 {
			return t
		}
		if n > 0 {
			web--
		}
	}
	return -1
}

// faultsOf returns why a plan is not allowed, found another way than by the package: each page of each copy is looked up in the run. It says false if the plan has no run for the job.
func faultsOf(j impose.Job, p impose.Plan) ([]impose.Spread, bool) {
	run := runOf(j, p)
	sizes, e := fold.Sizes(run)
	if e != api.OK || len(sizes) != len(j.Sections) {
		return nil, false
	}
	for i, n := range sizes {
		if n != len(j.Sections[i]) {
			return nil, false
		}
	}
	ganged, _ := fold.Ganged(run)
	faults := map[impose.Spread]bool{}
	for c := range copiesOf(j) {
		for s, section := range j.Sections {
			for i, leaf := range section {
				spot, _ := fold.Where(run, fold.Place{Copy: c, Section: s, Index: i})
				t := j.Towers[towerOf(p, spot.Web)]
				if leaf.Colour && !t.Colour[spot.Side][spot.Col] || leaf.Late && !t.Quick {
					faults[impose.Spread{Section: s, Index: i}] = true
				}
			}
		}
		for _, s := range j.Panoramas {
			if !slices.Contains(ganged, fold.Place{Copy: c, Section: s.Section, Index: s.Index}) {
				faults[s] = true
			}
		}
	}
	return inOrder(faults), true
}

// copiesOf returns how many copies a turn of the cylinders has.
func copiesOf(j impose.Job) int {
	if j.Collected {
		return 1
	}
	return j.Rows
}

func inOrder(set map[impose.Spread]bool) []impose.Spread {
	var l []impose.Spread
	for s := range set {
		l = append(l, s)
	}
	slices.SortFunc(l, func(a, b impose.Spread) int {
		return cmp.Or(cmp.Compare(a.Section, b.Section), cmp.Compare(a.Index, b.Index))
	})
	return l
}

// costOf returns what a plan costs.
func costOf(j impose.Job, p impose.Plan) impose.Cost {
	var c impose.Cost
	for _, n := range p.Cols {
		c.Plates += n * j.Rows * 2
		c.Webs += min(n, 1)
	}
	for _, l := range p.Stacks {
		for _, s := range l {
			if s.Turned {
				c.Turned++
			}
		}
	}
	return c
}

// everyPlan calls test with each plan that uses each ribbon of its webs once, in as many stacks as the job has: for the rest of the plans the run is not right, or the sections are too many or too few.
func everyPlan(j impose.Job, test func(p impose.Plan)) {
	everyCols(j, nil, func(cols []int) {
		everyStacks(slotsOf(cols), nil, len(j.Sections)/map[bool]int{false: 1, true: 2}[j.Collected], func(stacks [][]impose.Slot) {
			test(impose.Plan{Cols: cols, Stacks: stacks})
		})
	})
}

func everyCols(j impose.Job, cols []int, test func(cols []int)) {
	if len(cols) == len(j.Towers) {
		test(cols)
		return
	}
	for n := 0; n <= j.Towers[len(cols)].Cols; n++ {
		everyCols(j, append(slices.Clone(cols), n), test)
	}
}

// everyStacks takes one ribbon after the other out of rest: to the last stack so far, or to a new one.
func everyStacks(rest []slot, stacks [][]impose.Slot, left int, test func(stacks [][]impose.Slot)) {
	if len(rest) == 0 && left == 0 {
		test(stacks)
		return
	}
	for i, s := range rest {
		fewer := slices.Delete(slices.Clone(rest), i, i+1)
		for _, turned := range []bool{true, false} {
			s.Turned = turned
			if left > 0 {
				everyStacks(fewer, append(slices.Clone(stacks), []impose.Slot{s.Slot}), left-1, test)
			}
			if len(stacks) > 0 {
				more := slices.Clone(stacks)
				more[len(more)-1] = append(slices.Clone(more[len(more)-1]), s.Slot)
				everyStacks(fewer, more, left, test)
			}
		}
	}
}

// comparePlans compares two plans by their cost, and then in the chapter's order of plans.
func comparePlans(j impose.Job, a, b impose.Plan) int {
	x, y := costOf(j, a), costOf(j, b)
	if c := slices.Compare([]int{x.Webs, x.Plates, x.Turned}, []int{y.Webs, y.Plates, y.Turned}); c != 0 {
		return c
	}
	if c := slices.Compare(a.Cols, b.Cols); c != 0 {
		return c
	}
	return slices.CompareFunc(a.Stacks, b.Stacks, func(x, y []impose.Slot) int {
		return slices.CompareFunc(x, y, func(s, t impose.Slot) int {
			number := map[bool]int{true: 1}
			return slices.Compare([]int{s.Tower, s.Ribbon, number[s.Turned]}, []int{t.Tower, t.Ribbon, number[t.Turned]})
		})
	})
}

// anyPlan returns a plan that is mostly right for a job.
func anyPlan(j impose.Job, rnd *rand.Rand) impose.Plan {
	var p impose.Plan
	for _, t := range j.Towers {
		p.Cols = append(p.Cols, rnd.Intn(t.Cols+1))
	}
	slots := slotsOf(p.Cols)
	rnd.Shuffle(len(slots), func(i, k int) { slots[i], slots[k] = slots[k], slots[i] })
	for _, section := range j.Sections {
		if j.Collected && len(p.Stacks) == len(j.Sections)/2 {
			break
		}
		var stack []impose.Slot
		for open := len(section); open > 0 && len(slots) > 0; slots = slots[1:] {
			slots[0].Turned = rnd.Intn(2) == 0
			stack = append(stack, slots[0].Slot)
			open -= 2 * slots[0].width
		}
		p.Stacks = append(p.Stacks, stack)
	}
	return p
}

// same reports whether two values are deeply equal.
func same(a, b any) bool { return reflect.DeepEqual(a, b) }

// samePlan reports whether two plans are equal.
func samePlan(a, b impose.Plan) bool {
	return slices.Equal(a.Cols, b.Cols) && slices.EqualFunc(a.Stacks, b.Stacks, func(x, y []impose.Slot) bool { return slices.Equal(x, y) })
}

package impose

import (
	"iter"
	"slices"

	"foldhouse/fold"
)

// demand is what the pages of a stack need. Both sections of a collected stack are printed by the same columns, and so it has the needs of both.
type demand struct {
	leaves    []Leaf
	panoramas []int
}

// choice is a slot with what it can print: the pages of its ribbon if it were alone in a stack, of which the first two are those of its right half.
type choice struct {
	Slot
	pages  []Leaf
	ganged bool
}

// gap is the part of a stack's pages that the slots so far leave open, from front on and before back.
type gap struct{ front, back int }

// search seeks the least plan of a job.
type search struct {
	Job
	demands []demand
	choices [MaxTowers][maxCols + 1][]choice
	best    Plan
	cost    Cost
	found   bool
}

func newSearch(j Job) *search {
	s := &search{Job: j}
	for i := 0; i < len(j.Sections); i += parts(j) {
		s.demands = append(s.demands, demandOf(j, i))
	}
	for tower, t := range j.Towers {
		for cols := range t.Cols + 1 {
			for ribbon := range ribbons(cols) {
				s.choices[tower][cols] = append(s.choices[tower][cols],
					newChoice(j, Slot{Tower: tower, Ribbon: ribbon}, cols),
					newChoice(j, Slot{Tower: tower, Ribbon: ribbon, Turned: true}, cols))
			}
		}
	}
	return s
}

// demandOf returns the demand of the stack whose first section is given.
func demandOf(j Job, first int) demand {
	d := demand{leaves: slices.Clone(j.Sections[first])}
	for _, section := range j.Sections[first : first+parts(j)] {
		for i, leaf := range section {
			d.leaves[i].Colour = d.leaves[i].Colour || leaf.Colour
			d.leaves[i].Late = d.leaves[i].Late || leaf.Late
		}
	}
	for _, p := range j.Panoramas {
		if first <= p.Section && p.Section < first+parts(j) {
			d.panoramas = append(d.panoramas, p.Index)
		}
	}
	return d
}

// newChoice asks layer 1 what a slot prints, of a run in which each ribbon of the web is a stack of its own.
func newChoice(j Job, slot Slot, cols int) choice {
	alone := planned{Job{Rows: 1}, Plan{Cols: []int{cols}}}
	for ribbon := range ribbons(cols) {
		alone.Stacks = append(alone.Stacks, []Slot{{Ribbon: ribbon, Turned: slot.Turned}})
	}
	run := alone.run()
	c := choice{Slot: slot}
	for i := range 2 * width(cols, slot.Ribbon) {
		spot, _ := fold.Where(run, fold.Place{Section: slot.Ribbon, Index: i})
		c.pages = append(c.pages, j.Towers[slot.Tower].can(spot.Side, spot.Col))
	}
	ganged, _ := fold.Ganged(run)
	c.ganged = slices.Contains(ganged, fold.Place{Section: slot.Ribbon, Index: 1})
	return c
}

// widths yields for each tower how many columns its web has, in lexicographic order: all ways to have just the columns that are needed.
func (s *search) widths() iter.Seq[[]int] {
	return func(yield func([]int) bool) {
		cols := make([]int, len(s.Towers))
		var choose func(tower, left int) bool
		choose = func(tower, left int) bool {
			if tower == len(cols) {
				return left > 0 || yield(slices.Clone(cols))
			}
			for n := range min(left, s.Towers[tower].Cols) + 1 {
				cols[tower] = n
				if !choose(tower+1, left-n) {
					return false
				}
			}
			return true
		}
		choose(0, columns(s.Job))
	}
}

// try seeks plans with webs of these columns that cost less than the best one so far. It meets plans in their order, so that the first of equal ones stays. The stacks take all ribbons, as the webs have no more columns than the sections need.
func (s *search) try(cols []int) {
	var choices []choice
	for tower, n := range cols {
		choices = append(choices, s.choices[tower][n]...)
	}
	var used [MaxTowers][maxRibbons]bool
	stacks := make([][]Slot, len(s.demands))
	var place func(stack int, g gap, c Cost)
	place = func(stack int, g gap, c Cost) {
		if s.found && Compare(c, s.cost) >= 0 {
			return
		}
		if g.front == g.back {
			if stack == len(stacks)-1 {
				s.keep(cols, stacks, c)
			} else {
				place(stack+1, s.demands[stack+1].open(), c)
			}
			return
		}
		for _, one := range choices {
			if used[one.Tower][one.Ribbon] || !s.demands[stack].takes(one, g) {
				continue
			}
			used[one.Tower][one.Ribbon] = true
			stacks[stack] = append(stacks[stack], one.Slot)
			place(stack, g.after(one), c.with(one))
			stacks[stack] = stacks[stack][:len(stacks[stack])-1]
			used[one.Tower][one.Ribbon] = false
		}
	}
	place(0, s.demands[0].open(), planned{s.Job, Plan{Cols: cols}}.cost())
}

// keep makes a plan the best one so far.
func (s *search) keep(cols []int, stacks [][]Slot, c Cost) {
	s.best, s.cost, s.found = Plan{Cols: cols}, c, true
	for _, stack := range stacks {
		s.best.Stacks = append(s.best.Stacks, slices.Clone(stack))
	}
}

// open returns the gap of a stack without slots.
func (d demand) open() gap { return gap{0, len(d.leaves)} }

// takes reports whether the next slot of a stack can be this one.
func (d demand) takes(c choice, g gap) bool {
	if len(c.pages) > g.back-g.front {
		return false
	}
	for i, can := range c.pages {
		if !can.meets(d.leaves[g.index(c, i)]) {
			return false
		}
	}
	if rest := g.after(c); rest.front < rest.back {
		return true
	}
	// The last slot is the topmost ribbon, the only one with pages that follow each other in both halves.
	return !slices.ContainsFunc(d.panoramas, func(index int) bool { return !c.ganged || index != g.index(c, 1) })
}

// index returns the index in the section of a page of the next slot.
func (g gap) index(c choice, page int) int {
	if page < 2 {
		return g.front + page
	}
	return g.back - len(c.pages) + page
}

// after returns the gap that the next slot leaves.
func (g gap) after(c choice) gap {
	return gap{g.front + 2, g.back - len(c.pages) + 2}
}

// with returns the cost with a slot more.
func (c Cost) with(one choice) Cost {
	if one.Turned {
		c.Turned++
	}
	return c
}

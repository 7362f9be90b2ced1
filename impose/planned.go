package impose

import (
	"slices"

	"foldhouse/fold"
)

// planned is a job with a plan for it.
type planned struct {
	Job
	Plan
}

// ribbons returns how many ribbons a web has.
func ribbons(cols int) int { return (cols + 1) / 2 }

// width returns how wide a ribbon of a web is.
func width(cols, ribbon int) int { return min(2, cols-2*ribbon) }

func (w planned) hasCols() bool {
	if len(w.Cols) != len(w.Towers) {
		return false
	}
	for tower, cols := range w.Cols {
		if cols < 0 || cols > w.Towers[tower].Cols {
			return false
		}
	}
	return true
}

// hasSlots reports whether each slot names a ribbon. It relies on hasCols.
func (w planned) hasSlots() bool {
	for _, stack := range w.Stacks {
		for _, slot := range stack {
			if slot.Tower < 0 || slot.Tower >= len(w.Towers) {
				return false
			}
			if slot.Ribbon < 0 || slot.Ribbon >= ribbons(w.Cols[slot.Tower]) {
				return false
			}
		}
	}
	return true
}

// run returns the run of the plan, without pages. It relies on hasCols and hasSlots.
func (w planned) run() fold.Run {
	run := fold.Run{Collected: w.Collected}
	var first [MaxTowers]int
	for tower, cols := range w.Cols {
		if cols == 0 {
			continue
		}
		first[tower] = len(run.Ribbons)
		for ribbon := range ribbons(cols) {
			run.Ribbons = append(run.Ribbons, fold.Ribbon{Web: len(run.Webs), Col: 2 * ribbon, Width: width(cols, ribbon)})
		}
		run.Webs = append(run.Webs, fold.Web{Cols: cols, Rows: w.Rows, Plates: make([]fold.Plate, 2*w.Rows*cols)})
	}
	for _, slots := range w.Stacks {
		var stack []int
		for _, slot := range slots {
			ribbon := first[slot.Tower] + slot.Ribbon
			run.Ribbons[ribbon].Turned = slot.Turned
			stack = append(stack, ribbon)
		}
		run.Stacks = append(run.Stacks, stack)
	}
	return run
}

// product returns the pages of the sections, numbered from 1 on.
func (w planned) product() [][]int {
	var product [][]int
	page := 0
	for _, section := range w.Sections {
		var pages []int
		for range section {
			page++
			pages = append(pages, page)
		}
		product = append(product, pages)
	}
	return product
}

// web returns the number of the web of a tower that has one.
func (w planned) web(tower int) int {
	webs := 0
	for _, cols := range w.Cols[:tower] {
		if cols > 0 {
			webs++
		}
	}
	return webs
}

func (w planned) cost() Cost {
	var c Cost
	for _, cols := range w.Cols {
		if cols > 0 {
			c.Webs++
			c.Plates += 2 * w.Rows * cols
		}
	}
	for _, stack := range w.Stacks {
		for _, slot := range stack {
			if slot.Turned {
				c.Turned++
			}
		}
	}
	return c
}

// faults returns the pages for which the plan is not allowed, from its filled run.
func (w planned) faults(run fold.Run) []Spread {
	prints := w.prints(run)
	torn := w.torn(run)
	var spreads []Spread
	page := 0
	for section, leaves := range w.Sections {
		for index, need := range leaves {
			spread := Spread{Section: section, Index: index}
			page++
			if !prints[page].meets(need) || slices.Contains(torn, spread) {
				spreads = append(spreads, spread)
			}
		}
	}
	return spreads
}

// prints returns for each page, by its number, what the place can do where it is printed.
func (w planned) prints(run fold.Run) map[int]Leaf {
	can := map[int]Leaf{}
	for tower, cols := range w.Cols {
		if cols == 0 {
			continue
		}
		for i, plate := range run.Webs[w.web(tower)].Plates {
			side := i / (w.Rows * cols)
			can[plate.Page] = w.Towers[tower].can(side, i%cols)
		}
	}
	return can
}

// torn returns the panoramas that are not ganged.
func (w planned) torn(run fold.Run) []Spread {
	ganged, _ := fold.Ganged(run)
	return slices.DeleteFunc(slices.Clone(w.Panoramas), func(s Spread) bool {
		return slices.Contains(ganged, fold.Place{Section: s.Section, Index: s.Index})
	})
}

// can returns what a tower can print in a column of a side.
func (t Tower) can(side, col int) Leaf {
	return Leaf{Colour: t.Colour[side][col], Late: t.Quick}
}

// meets reports whether what can be printed is enough for what is needed.
func (can Leaf) meets(need Leaf) bool {
	return (can.Colour || !need.Colour) && (can.Late || !need.Late)
}

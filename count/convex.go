package count

import (
	"cmp"
	"slices"
)

// convex is a convex function of the whole numbers from least on, whose value there does not matter. Its steps are in increasing order of slope.
type convex struct {
	least int
	steps []step
}

// step says that a function rises by slope with each of so many numbers.
type step struct{ slope, length int }

// join returns the least sum of two functions whose numbers are, together, a given one.
func (f convex) join(g convex) convex {
	// What rises least is taken first.
	steps := slices.Concat(f.steps, g.steps)
	slices.SortStableFunc(steps, func(x, y step) int { return cmp.Compare(x.slope, y.slope) })
	return convex{least: f.least + g.least, steps: steps}
}

// plus returns the sum of a function and weight times the distance from reading.
func (f convex) plus(weight, reading int) convex {
	sum := convex{least: f.least}
	add := func(slope, length int) {
		if length > 0 {
			sum.steps = append(sum.steps, step{slope, length})
		}
	}
	at := f.least
	for _, s := range f.steps {
		before := max(0, min(s.length, reading-at))
		add(s.slope-weight, before)
		add(s.slope+weight, s.length-before)
		at += s.length
	}
	return sum
}

// first returns the first number from which on a function rises by slope or more.
func (f convex) first(slope int) int {
	n := f.least
	for _, s := range f.steps {
		if s.slope < slope {
			n += s.length
		}
	}
	return n
}

// rise returns by how much a function rises from a number to the next one.
func (f convex) rise(n int) int {
	end := f.least
	for _, s := range f.steps {
		end += s.length
		if n < end {
			return s.slope
		}
	}
	return 0
}

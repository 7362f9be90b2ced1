package edition

import (
	"iter"
	"slices"
)

// orders yields all orders of the editions in lexicographic order. Each one is written over the one before.
func (w *working) orders() iter.Seq[[]int] {
	return func(yield func([]int) bool) {
		n := len(w.editions)
		order := make([]int, n)
		var used [MaxEditions]bool
		var choose func(place int) bool
		choose = func(place int) bool {
			if place == n {
				return yield(order)
			}
			for edition := range n {
				if used[edition] {
					continue
				}
				used[edition] = true
				order[place] = edition
				if !choose(place + 1) {
					return false
				}
				used[edition] = false
			}
			return true
		}
		choose(0)
	}
}

// fewest returns the first order with the least sum of plates, and this sum.
func (w *working) fewest() ([]int, int) {
	var best []int
	least := 0
	for order := range w.orders() {
		plates := w.whole
		for i, edition := range order[1:] {
			plates += w.changes[order[i]][edition]
		}
		if best == nil || plates < least {
			best, least = slices.Clone(order), plates
		}
	}
	return best, least
}

// best returns the order in time with the least sum of plates, and this sum; of several the one that ends first; no order, if none is in time. It meets orders in lexicographic order, so that the first of equal ones stays.
func (w *working) best() ([]int, int) {
	var best []int
	least, end := 0, 0
	var used [MaxEditions]bool
	var slots []Slot
	var place func(plates int)
	place = func(plates int) {
		if len(slots) == len(w.editions) {
			last := slots[len(slots)-1].End
			if best == nil || plates < least || plates == least && last < end {
				best, least, end = orderOf(slots), plates, last
			}
			return
		}
	branches:
		for edition := range w.editions {
			if used[edition] {
				continue
			}
			s := w.next(slots, edition)
			if w.isLate(s) || best != nil && plates+s.Plates > least {
				continue
			}
			for later := range w.editions {
				// How many plates will be changed for a later edition is not known, as others may come between: at the best it is none.
				if !used[later] && later != edition && w.isLate(w.after(s.End, later, 0)) {
					continue branches
				}
			}
			used[edition] = true
			slots = append(slots, s)
			place(plates + s.Plates)
			slots = slots[:len(slots)-1]
			used[edition] = false
		}
	}
	place(0)
	return best, least
}

func orderOf(slots []Slot) []int {
	var order []int
	for _, s := range slots {
		order = append(order, s.Edition)
	}
	return order
}

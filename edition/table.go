package edition

import (
	"iter"
	"slices"
)

// size returns how many numbers a table has.
func (w *working) size() int { return len(w.editions) << len(w.editions) }

// at returns where the number of a set and a last edition stands in a table.
func (w *working) at(set, last int) int { return len(w.editions)*set + last }

// has reports whether an edition is in a set.
func has(set, edition int) bool { return set>>edition&1 == 1 }

// steps yields what is in time by a table: an edition as the first one, or after the second of a set and a last edition. It yields where the number of the set with it stands, and the end. It reads a number when all steps that lead to it have been yielded, so that a table can be filled on the way.
func (w *working) steps(table []int) iter.Seq2[int, int] {
	return func(yield func(at, end int) bool) {
		for edition := range w.editions {
			if s := w.first(edition); !w.isLate(s) && !yield(w.at(1<<edition, edition), s.End) {
				return
			}
		}
		for set := range 1 << len(w.editions) {
			for last := range w.editions {
				if !w.stepsFrom(set, last, table[w.at(set, last)], yield) {
					return
				}
			}
		}
	}
}

// stepsFrom yields the steps from a set whose last edition ends at a second, and reports whether there may be more.
func (w *working) stepsFrom(set, last, end int, yield func(at, end int) bool) bool {
	if end < 0 || !has(set, last) {
		return true
	}
	for edition := range w.editions {
		if has(set, edition) {
			continue
		}
		s := w.after(end, edition, w.changes[last][edition])
		if !w.isLate(s) && !yield(w.at(set|1<<edition, edition), s.End) {
			return false
		}
	}
	return true
}

// table returns for each set and last edition the least end in time, or -1. An edition never ends earlier for beginning later, so that the least ends of a set are enough for those of a greater one.
func (w *working) table() []int {
	table := slices.Repeat([]int{-1}, w.size())
	for at, end := range w.steps(table) {
		if table[at] < 0 || end < table[at] {
			table[at] = end
		}
	}
	return table
}

// isTable reports whether a list has the length and the numbers of a table.
func (w *working) isTable(table []int) bool {
	if len(table) != w.size() {
		return false
	}
	return !slices.ContainsFunc(table, func(n int) bool { return !within(n, -1, MaxTime) })
}

// follows reports whether each step of a table leads to a second that is not later than its end.
func (w *working) follows(table []int) bool {
	for at, end := range w.steps(table) {
		if table[at] < 0 || table[at] > end {
			return false
		}
	}
	return true
}

// isEmptyAtEnd reports whether a table has no second for the set of all editions.
func (w *working) isEmptyAtEnd(table []int) bool {
	return !slices.ContainsFunc(table[w.size()-len(w.editions):], func(n int) bool { return n >= 0 })
}

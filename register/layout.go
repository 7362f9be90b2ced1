package register

import (
	"iter"
	"slices"

	"foldhouse/api"
)

// layout is a pattern with its window.
type layout struct {
	marks  []int
	window int
}

func (p layout) hasMarks() bool { return within(len(p.marks), minMarks, MaxMarks) }

// isAllowed reports whether the window and the positions of the marks are allowed.
func (p layout) isAllowed() bool {
	if !within(p.window, 0, MaxWindow) {
		return false
	}
	for i, mark := range p.marks {
		if !within(mark, 0, MaxPlace) || i > 0 && mark-p.marks[i-1] <= 4*p.window {
			return false
		}
	}
	return true
}

// canBeSeen reports whether positions are strictly increasing and in the range of a camera.
func canBeSeen(seen []int) bool {
	for i, place := range seen {
		if !within(place, -MaxPlace, 2*MaxPlace) || i > 0 && place <= seen[i-1] {
			return false
		}
	}
	return true
}

// match returns the best shift, or the error of the pattern or of what was seen.
func (p layout) match(seen []int) (Fit, api.Errno) {
	switch {
	case !p.hasMarks() || len(seen) > MaxSeen:
		return Fit{}, api.ErrMany
	case !p.isAllowed():
		return Fit{}, api.ErrRange
	case !canBeSeen(seen):
		return Fit{}, api.ErrOrder
	}
	return p.best(seen), api.OK
}

func (p layout) best(seen []int) Fit {
	find := p.finder(seen)
	shift, count := 0, 0
	// Marks are so far apart that no two of them are found at one position.
	most := min(len(p.marks), len(seen))
	for s := range shifts() {
		if count == most {
			break
		}
		if n := p.count(find, s); n > count {
			shift, count = s, n
		}
	}
	fit := Fit{Shift: shift, Count: count}
	for _, mark := range p.marks {
		fit.Found = append(fit.Found, find(mark+shift))
	}
	return fit
}

// count returns how many marks a shift finds.
func (p layout) count(find func(place int) int, shift int) int {
	n := 0
	for _, mark := range p.marks {
		if find(mark+shift) != Lost {
			n++
		}
	}
	return n
}

// finder returns a function that tells at which position a mark is found whose place is given, or Lost.
func (p layout) finder(seen []int) func(place int) int {
	return func(place int) int {
		i, _ := slices.BinarySearch(seen, place-p.window)
		if i < len(seen) && seen[i] <= place+p.window {
			return seen[i]
		}
		return Lost
	}
}

// errors returns the errors of all marks but the first one, which was found.
func (p layout) errors(found []int) []int {
	var errors []int
	for i, place := range found[1:] {
		if place == Lost {
			errors = append(errors, Lost)
		} else {
			errors = append(errors, place-found[0]-(p.marks[i+1]-p.marks[0]))
		}
	}
	return errors
}

// shifts yields all shifts, so that of two the better one comes first.
func shifts() iter.Seq[int] {
	return func(yield func(shift int) bool) {
		if !yield(0) {
			return
		}
		for n := 1; n <= MaxShift; n++ {
			if !yield(n) || !yield(-n) {
				return
			}
		}
	}
}

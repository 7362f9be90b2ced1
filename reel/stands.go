package reel

import "slices"

// unused is the stand of a reel that stays in the store.
const unused = -1

// stands are what needs reels, with the store that has them.
type stands struct {
	store []Reel
	needs []Need
}

// value tells which of two plans is less.
type value struct{ used, beyond int }

func (v value) isLess(other value) bool {
	if v.used != other.used {
		return v.used < other.used
	}
	return v.beyond < other.beyond
}

// isPlan reports whether a list names a stand or none for each reel.
func (s stands) isPlan(plan []int) bool {
	if len(plan) != len(s.store) {
		return false
	}
	return !slices.ContainsFunc(plan, func(stand int) bool { return !within(stand, unused, len(s.needs)-1) })
}

// value returns the value of a plan, and whether all stands get what they need.
func (s stands) value(plan []int) (value, bool) {
	var v value
	lacks := s.lacks()
	for i, stand := range plan {
		if stand == unused {
			continue
		}
		r := s.store[i]
		if r.Width != s.needs[stand].Width {
			return value{}, false
		}
		v.used++
		lacks[stand] -= r.gives()
	}
	for _, n := range lacks {
		if n > 0 {
			return value{}, false
		}
		v.beyond -= n
	}
	return v, true
}

// lacks returns what the stands lack before they get reels.
func (s stands) lacks() [MaxNeeds]int {
	var lacks [MaxNeeds]int
	for i, need := range s.needs {
		lacks[i] = need.Length
	}
	return lacks
}

// least returns the least plan, or nil if there is none. It meets plans in lexicographic order, so that the first of equal ones stays.
func (s stands) least() []int {
	var best []int
	var least value
	plan := slices.Repeat([]int{unused}, len(s.store))
	var try func(i, used int, lacks [MaxNeeds]int)
	try = func(i, used int, lacks [MaxNeeds]int) {
		if i == len(plan) {
			if v, right := s.value(plan); right && (best == nil || v.isLess(least)) {
				best, least = slices.Clone(plan), v
			}
			return
		}
	branches:
		for stand := unused; stand < len(s.needs); stand++ {
			left, more := lacks, used
			if stand != unused {
				if s.store[i].Width != s.needs[stand].Width {
					continue
				}
				left[stand] -= s.store[i].gives()
				more++
			}
			if best != nil && more+open(left) > least.used {
				continue
			}
			for _, need := range s.needs {
				if s.missing(need.Width, left) > s.paper(need.Width, i+1) {
					continue branches
				}
			}
			plan[i] = stand
			try(i+1, more, left)
		}
	}
	try(0, 0, s.lacks())
	return best
}

// open returns how many stands still lack paper: each of them needs a reel more.
func open(lacks [MaxNeeds]int) int {
	n := 0
	for _, lack := range lacks {
		if lack > 0 {
			n++
		}
	}
	return n
}

// missing returns what the stands of a width lack together.
func (s stands) missing(width int, lacks [MaxNeeds]int) int {
	sum := 0
	for i, need := range s.needs {
		if need.Width == width {
			sum += max(0, lacks[i])
		}
	}
	return sum
}

// paper returns what the reels of a width give from one of the store on.
func (s stands) paper(width, from int) int {
	sum := 0
	for _, r := range s.store[from:] {
		if r.Width == width {
			sum += r.gives()
		}
	}
	return sum
}

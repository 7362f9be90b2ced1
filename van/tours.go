package van

import "slices"

const (
	works = 0
	noEnd = -1
)

// place returns the place of a stop in the table of ways.
func place(stop int) int { return stop + 1 }

// all returns the set of all stops.
func (f Fleet) all() set { return single(len(f.Stops)) - 1 }

// carries reports whether a van can carry what stops get.
func (f Fleet) carries(stops []int) bool {
	load := 0
	for _, stop := range stops {
		load += f.Stops[stop].Load
	}
	return load <= f.Capacity
}

// leave returns the minute at which a van leaves for stops.
func (f Fleet) leave(stops []int) int {
	leave := f.Start
	for _, stop := range stops {
		leave = max(leave, f.Stops[stop].Ready)
	}
	return leave
}

// leave returns the minute at which a van leaves that comes at another one.
func (s Stop) leave(came int) int { return max(came, s.Open) + s.Serve }

// drive returns a tour, when it comes to its stops, and whether it is in time.
func (f Fleet) drive(stops []int) (Tour, []int, bool) {
	tour := Tour{Stops: slices.Clone(stops), Leave: f.leave(stops)}
	at, minute := works, tour.Leave
	var comes []int
	for _, stop := range stops {
		came := minute + f.Minutes[at][place(stop)]
		if came > f.Stops[stop].Close {
			return Tour{}, nil, false
		}
		comes = append(comes, came)
		at, minute = place(stop), f.Stops[stop].leave(came)
	}
	tour.End = minute + f.Minutes[at][works]
	return tour, comes, tour.End <= f.Back
}

// slack returns by how much later a right tour could leave. It goes back from the end, with the last minute at which the tour may come.
func (f Fleet) slack(stops []int) int {
	at, last := works, f.Back
	for _, stop := range slices.Backward(stops) {
		s := f.Stops[stop]
		last = min(s.Close, last-f.Minutes[place(stop)][at]-s.Serve)
		at = place(stop)
	}
	return last - f.Minutes[works][at] - f.leave(stops)
}

// least returns the tour of stops that ends first, if one comes in time. It meets tours in lexicographic order, so that the first of equal ones stays.
func (f Fleet) least(stops []int) (Tour, bool) {
	var best Tour
	found := false
	way, leave := make([]int, 0, len(stops)), f.leave(stops)
	var seek func(left set, at, minute int)
	seek = func(left set, at, minute int) {
		if left == 0 {
			end := minute + f.Minutes[at][works]
			if end <= f.Back && (!found || end < best.End) {
				best, found = Tour{Stops: slices.Clone(way), Leave: leave, End: end}, true
			}
			return
		}
		for stop := range left.numbers() {
			came := minute + f.Minutes[at][place(stop)]
			if came > f.Stops[stop].Close || found && came >= best.End {
				continue
			}
			way = append(way, stop)
			seek(left&^single(stop), place(stop), f.Stops[stop].leave(came))
			way = way[:len(way)-1]
		}
	}
	seek(setOf(stops), works, leave)
	return best, found
}

// tours returns the least tour of each set of stops that has a right one.
func (f Fleet) tours() *table[Tour] {
	tours := newTable[Tour](len(f.Stops))
	for s := range tours.sets() {
		stops := slices.Collect(s.numbers())
		if !f.carries(stops) {
			continue
		}
		if tour, found := f.least(stops); found {
			tours.put(s, tour)
		}
	}
	return tours
}

// plan has tours, which take so long together.
type plan struct {
	tours []Tour
	takes int
}

// plan returns the least plan, if there is one. In it each tour is the least one of its stops, as the stops say when it leaves.
func (f Fleet) plan() (plan, bool) {
	return divide(f.tours(), begin, plan.isLess).get(f.all())
}

// begin returns a plan with a tour before those of another one.
func begin(t Tour, others plan) plan {
	return plan{tours: slices.Concat([]Tour{t}, others.tours), takes: t.End - t.Leave + others.takes}
}

func (p plan) isLess(other plan) bool {
	switch {
	case len(p.tours) != len(other.tours):
		return len(p.tours) < len(other.tours)
	case p.takes != other.takes:
		return p.takes < other.takes
	}
	return slices.Compare(p.line(), other.line()) < 0
}

// line returns the stops of all tours, one tour behind the other, each followed by -1.
func (p plan) line() []int {
	var line []int
	for _, tour := range p.tours {
		line = append(append(line, tour.Stops...), -1)
	}
	return line
}

// fewest returns the fewest sets of a table that have all stops, each in just one, if there are such sets.
func fewest(numbers *table[int]) (int, bool) {
	sets := divide(numbers, func(_, others int) int { return others + 1 }, func(a, b int) bool { return a < b })
	return sets.get(numbers.all())
}

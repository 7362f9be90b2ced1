package van

import "foldhouse/api"

// within reports whether a number is from lo to hi.
func within(n, lo, hi int) bool { return lo <= n && n <= hi }

func isTime(n int) bool { return within(n, 0, MaxTime) }

func (s Stop) isRight() bool {
	return within(s.Load, 0, maxLoad) && isTime(s.Ready) && isTime(s.Open) && isTime(s.Close) && within(s.Serve, 0, maxServe) && s.Open <= s.Close
}

func (f Fleet) hasStops() bool {
	for _, s := range f.Stops {
		if !s.isRight() {
			return false
		}
	}
	return true
}

// hasMinutes reports whether the table of ways has the right size and numbers.
func (f Fleet) hasMinutes() bool {
	places := len(f.Stops) + 1
	if len(f.Minutes) != places {
		return false
	}
	for from, row := range f.Minutes {
		if len(row) != places || row[from] != 0 {
			return false
		}
		for _, minutes := range row {
			if !within(minutes, 0, maxMinutes) {
				return false
			}
		}
	}
	return true
}

// areStops reports whether a list has different stops, and at least one.
func (f Fleet) areStops(stops []int) bool {
	var met set
	for _, stop := range stops {
		if !within(stop, 0, len(f.Stops)-1) || met.has(stop) {
			return false
		}
		met |= single(stop)
	}
	return met != 0
}

// checkTour returns the first error of a fleet and the stops of a tour, but for that of its times.
func checkTour(f Fleet, stops []int) api.Errno {
	if e := Check(f); e != api.OK {
		return e
	}
	if !f.areStops(stops) {
		return api.ErrArg
	}
	if !f.carries(stops) {
		return api.ErrVan
	}
	return api.OK
}

// isPlan reports whether lists have each stop once, and are in the order of their least stops.
func (f Fleet) isPlan(plan [][]int) bool {
	var met set
	last := -1
	for _, stops := range plan {
		if !f.areStops(stops) {
			return false
		}
		s := setOf(stops)
		if s&met != 0 || s.least() < last {
			return false
		}
		met, last = met|s, s.least()
	}
	return met == f.all()
}

// areEnds reports whether a table of ends has the right size and numbers.
func (f Fleet) areEnds(ends []int) bool {
	if len(ends) != int(f.all())+1 {
		return false
	}
	for _, end := range ends {
		if end != noEnd && !isTime(end) {
			return false
		}
	}
	return true
}

func (r Round) isCorner(n int) bool { return within(n, 0, r.Corners-1) }

func (r Round) hasStreets() bool {
	for _, s := range r.Streets {
		if !r.isCorner(s.A) || !r.isCorner(s.B) || s.A == s.B || !within(s.Length, 1, maxStreet) {
			return false
		}
	}
	return true
}

// checkFrom returns the first error of a round and a corner from which it is to be walked.
func checkFrom(r Round, from int) api.Errno {
	if e := CheckRound(r); e != api.OK {
		return e
	}
	if !r.isCorner(from) || len(r.Streets) > 0 && r.degrees()[from] == 0 {
		return api.ErrArg
	}
	return api.OK
}

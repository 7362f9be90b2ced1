package van

import "slices"

// degrees returns how many streets each corner has that has some.
func (r Round) degrees() map[int]int {
	degrees := map[int]int{}
	for _, s := range r.Streets {
		degrees[s.A]++
		degrees[s.B]++
	}
	return degrees
}

// odd returns the corners with an odd number of streets, in order.
func (r Round) odd() []int {
	var odd []int
	degrees := r.degrees()
	for corner := range r.Corners {
		if degrees[corner]%2 == 1 {
			odd = append(odd, corner)
		}
	}
	return odd
}

// isJoined reports whether all corners that have a street can be reached from each other.
func (r Round) isJoined() bool {
	if len(r.Streets) == 0 {
		return true
	}
	reached := single(r.Streets[0].A)
	// Each pass but the last one reaches a corner more.
	for range r.Corners {
		for _, s := range r.Streets {
			if reached.has(s.A) || reached.has(s.B) {
				reached |= single(s.A) | single(s.B)
			}
		}
	}
	return !slices.ContainsFunc(r.Streets, func(s Street) bool { return !reached.has(s.A) })
}

// from and to return the corners of a step.
func (r Round) from(s Step) int {
	if s.Back {
		return r.Streets[s.Street].B
	}
	return r.Streets[s.Street].A
}

func (r Round) to(s Step) int { return r.from(Step{Street: s.Street, Back: !s.Back}) }

// way has streets that are so long together.
type way struct {
	streets []int
	length  int
}

func (w way) and(other way) way {
	return way{streets: slices.Concat(w.streets, other.streets), length: w.length + other.length}
}

func (w way) isShorter(other way) bool { return w.length < other.length }

// ways returns the shortest ways from a corner to all that can be reached; the others have a length that no way has.
func (r Round) ways(corner int) []way {
	ways := slices.Repeat([]way{{length: MaxCorners * maxStreet}}, r.Corners)
	ways[corner].length = 0
	// No shortest way has more streets than there are passes.
	for range r.Corners {
		for i, s := range r.Streets {
			for _, step := range []Step{{Street: i}, {Street: i, Back: true}} {
				longer := ways[r.from(step)].and(way{[]int{i}, s.Length})
				if to := r.to(step); longer.isShorter(ways[to]) {
					ways[to] = longer
				}
			}
		}
	}
	return ways
}

// more returns the streets that are walked once more: the shortest ways that join the odd corners by twos. No two of these have a street in common, as without it they would be shorter, and join the same corners.
func (r Round) more() way {
	odd := r.odd()
	pairs := newTable[way](len(odd))
	for i, corner := range odd {
		ways := r.ways(corner)
		for j := range i {
			pairs.put(single(i)|single(j), ways[odd[j]])
		}
	}
	more, _ := divide(pairs, way.and, way.isShorter).get(pairs.all())
	return more
}

// times returns how often each street is in a way.
func (r Round) times(w way) []int {
	times := make([]int, len(r.Streets))
	for _, street := range w.streets {
		times[street]++
	}
	return times
}

// join returns a walk from a corner that has each street so many times, if each corner has an even number of them. It goes on as long as it can, which closes a loop, and then back to where another loop can be put in.
func (r Round) join(corner int, times []int) []Step {
	var walk []Step
	at := 0
join:
	for {
		step, found := r.next(corner, times)
		switch {
		case found:
			times[step.Street]--
			walk = slices.Insert(walk, at, step)
			corner = r.to(step)
			at++
		case at > 0:
			at--
			corner = r.from(walk[at])
		default:
			break join
		}
	}
	return walk
}

// next returns the first step from a corner along a street that is still to be walked.
func (r Round) next(corner int, times []int) (Step, bool) {
	for i, n := range times {
		for _, step := range []Step{{Street: i}, {Street: i, Back: true}} {
			if n > 0 && r.from(step) == corner {
				return step, true
			}
		}
	}
	return Step{}, false
}

// follow returns the length of a walk, and whether it serves the round from a corner.
func (r Round) follow(from int, walk []Step) (int, bool) {
	walked := make([]bool, len(r.Streets))
	corner, length := from, 0
	for _, step := range walk {
		if !within(step.Street, 0, len(r.Streets)-1) || r.from(step) != corner {
			return 0, false
		}
		walked[step.Street] = true
		corner = r.to(step)
		length += r.Streets[step.Street].Length
	}
	return length, corner == from && !slices.Contains(walked, false)
}

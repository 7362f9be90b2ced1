package mail

import (
	"iter"
	"slices"

	"foldhouse/api"
)

// run is a line at work on copies.
type run struct {
	Line
	// zoneOf says for each copy which zone it is for, and feeding for each zone which hoppers feed it.
	zoneOf  []int
	feeding [][]int
	// doubles says for the copy and the hopper of each fault whether it is a double.
	doubles map[[2]int]bool
}

// newRun returns a run of a line, or the error of the line, the copies or the faults.
func newRun(l Line, zones []int, faults []Fault) (*run, api.Errno) {
	if e := Check(l); e != api.OK {
		return nil, e
	}
	if len(zones) > MaxRun || len(faults) > MaxRun {
		return nil, api.ErrMany
	}
	for _, zone := range zones {
		if !l.isZone(zone) {
			return nil, api.ErrRange
		}
	}
	r := &run{Line: l, zoneOf: zones, doubles: map[[2]int]bool{}}
	for zone := range l.Zones {
		r.feeding = append(r.feeding, l.feeds(zone))
	}
	for _, f := range faults {
		if e := r.note(f); e != api.OK {
			return nil, e
		}
	}
	return r, api.OK
}

// note takes a fault into the run.
func (r *run) note(f Fault) api.Errno {
	if !within(f.Copy, 0, len(r.zoneOf)-1) || !slices.Contains(r.hoppers(f.Copy), f.Hopper) {
		return api.ErrArg
	}
	key := [2]int{f.Copy, f.Hopper}
	if _, is := r.doubles[key]; is {
		return api.ErrTwice
	}
	r.doubles[key] = f.Double
	return api.OK
}

// hoppers returns the hoppers that feed a copy, in the order of its parts.
func (r *run) hoppers(number int) []int { return r.feeding[r.zoneOf[number]] }

// puts returns how many parts a hopper puts into a copy that it feeds.
func (r *run) puts(number, hopper int) int {
	switch double, is := r.doubles[[2]int{number, hopper}]; {
	case !is:
		return 1
	case double:
		return 2
	}
	return 0
}

// isMended reports whether a part that a hopper has missed is put in at a repair.
func (r *run) isMended(number, hopper int) bool {
	h := r.Hoppers[hopper]
	return h.Watch == seen && r.puts(number, hopper) == 0 && slices.Contains(r.Repair, h.Part)
}

// isThrown reports whether a copy is thrown out.
func (r *run) isThrown(number int) bool {
	for _, h := range r.hoppers(number) {
		if r.Hoppers[h].Watch == seen && r.puts(number, h) != 1 && !r.isMended(number, h) {
			return true
		}
	}
	return false
}

// isRepaired reports whether a copy goes on of which something was repaired.
func (r *run) isRepaired(number int) bool {
	mended := func(hopper int) bool { return r.isMended(number, hopper) }
	return !r.isThrown(number) && slices.ContainsFunc(r.hoppers(number), mended)
}

// made returns a copy that goes on.
func (r *run) made(number int) Copy {
	c := Copy{Number: number, Zone: r.zoneOf[number]}
	for _, h := range r.hoppers(number) {
		n := r.puts(number, h)
		if r.isMended(number, h) {
			n = 1
		}
		for range n {
			c.Parts = append(c.Parts, r.Hoppers[h].Part)
		}
	}
	c.Right = slices.Equal(c.Parts, r.Zones[c.Zone])
	return c
}

// batches returns how many batches there are.
func (r *run) batches() int { return (len(r.zoneOf) + r.Batch - 1) / r.Batch }

// batch yields the copies of a batch.
func (r *run) batch(b int) iter.Seq[int] {
	return func(yield func(number int) bool) {
		for number := b * r.Batch; number < min((b+1)*r.Batch, len(r.zoneOf)); number++ {
			if !yield(number) {
				return
			}
		}
	}
}

// counts returns how many parts each hopper has put into the copies of a batch.
func (r *run) counts(b int) []int {
	counts := make([]int, len(r.Hoppers))
	for number := range r.batch(b) {
		for _, h := range r.hoppers(number) {
			counts[h] += r.puts(number, h)
		}
	}
	return counts
}

// isDeclared reports whether a batch is declared.
func (r *run) isDeclared(b int) bool {
	var due [MaxHoppers]int
	for number := range r.batch(b) {
		for _, h := range r.hoppers(number) {
			due[h]++
		}
	}
	for h, n := range r.counts(b) {
		switch r.Hoppers[h].Watch {
		case unwatched:
			if due[h] > 0 {
				return true
			}
		case counted:
			if due[h] != n {
				return true
			}
		}
	}
	return false
}

// flow returns what becomes of the copies.
func (r *run) flow() Flow {
	f := Flow{
		Thrown:   choose(len(r.zoneOf), r.isThrown),
		Repaired: choose(len(r.zoneOf), r.isRepaired),
		Declared: choose(r.batches(), r.isDeclared),
	}
	for number := range r.zoneOf {
		if !r.isThrown(number) {
			f.Copies = append(f.Copies, r.made(number))
		}
	}
	return f
}

// choose returns the numbers below n of which something is so.
func choose(n int, isSo func(number int) bool) []int {
	var l []int
	for number := range n {
		if isSo(number) {
			l = append(l, number)
		}
	}
	return l
}

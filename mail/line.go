package mail

import "slices"

func (l Line) hasHoppers() bool {
	for _, h := range l.Hoppers {
		if !within(h.Part, 0, maxPart) || !within(h.Watch, unwatched, seen) {
			return false
		}
	}
	return true
}

func (l Line) hasZones() bool {
	for _, parts := range l.Zones {
		if !areParts(parts) {
			return false
		}
		for _, part := range parts {
			if l.feeder(part) < 0 {
				return false
			}
		}
	}
	return true
}

// areParts reports whether numbers are parts in increasing order.
func areParts(l []int) bool {
	last := -1
	for _, part := range l {
		if !within(part, last+1, maxPart) {
			return false
		}
		last = part
	}
	return true
}

// feeder returns the first hopper that feeds a part, or -1.
func (l Line) feeder(part int) int {
	return slices.IndexFunc(l.Hoppers, func(h Hopper) bool { return h.Part == part })
}

func (l Line) isZone(zone int) bool { return within(zone, 0, len(l.Zones)-1) }

// feeds returns the hoppers that feed a zone, in the order of its parts.
func (l Line) feeds(zone int) []int {
	var hoppers []int
	for _, part := range l.Zones[zone] {
		hoppers = append(hoppers, l.feeder(part))
	}
	return hoppers
}

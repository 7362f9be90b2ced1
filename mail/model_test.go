package mail_test

import (
	"math"
	"math/rand"
	"reflect"
	"slices"
	"testing"

	"foldhouse/api"
	"foldhouse/mail"
)

// example returns the line of the chapter's example 1.
func example() mail.Line {
	return mail.Line{
		Hoppers: []mail.Hopper{{Part: 3, Watch: 2}, {Part: 5, Watch: 1}},
		Repair:  []int{3},
		Batch:   3,
		Zones:   [][]int{{3, 5}, {3}},
	}
}

func miss(number, hopper int) mail.Fault { return mail.Fault{Copy: number, Hopper: hopper} }

func double(number, hopper int) mail.Fault {
	return mail.Fault{Copy: number, Hopper: hopper, Double: true}
}

// hopperOf returns the first hopper of a part.
func hopperOf(l mail.Line, part int) int {
	for i := range l.Hoppers {
		if l.Hoppers[i].Part == part {
			return i
		}
	}
	return -1
}

// part is what a hopper does for a part of a copy, by the words of the chapter.
type part struct {
	part, hopper, watch  int
	put                  int
	repaired, throws     bool
	isMissing, isDoubled bool
}

// partsOf returns what is done for the parts of a copy.
func partsOf(l mail.Line, zones []int, faults []mail.Fault, number int) []part {
	var parts []part
	for _, n := range l.Zones[zones[number]] {
		h := hopperOf(l, n)
		p := part{part: n, hopper: h, watch: l.Hoppers[h].Watch, put: 1}
		for _, f := range faults {
			if f.Copy == number && f.Hopper == h {
				p.isMissing, p.isDoubled = !f.Double, f.Double
			}
		}
		if p.isMissing {
			p.put = 0
		}
		if p.isDoubled {
			p.put = 2
		}
		if p.watch == 2 {
			p.repaired = p.isMissing && slices.Contains(l.Repair, n)
			p.throws = p.isDoubled || p.isMissing && !p.repaired
		}
		parts = append(parts, p)
	}
	return parts
}

// batchesOf returns the copies of each batch.
func batchesOf(l mail.Line, copies int) [][]int {
	var batches [][]int
	for k := range copies {
		if k%l.Batch == 0 {
			batches = append(batches, nil)
		}
		batches[k/l.Batch] = append(batches[k/l.Batch], k)
	}
	return batches
}

// flowOf returns what becomes of copies, and how many parts hoppers put in.
func flowOf(l mail.Line, zones []int, faults []mail.Fault) (mail.Flow, [][]int) {
	var f mail.Flow
	var counts [][]int
	for b, numbers := range batchesOf(l, len(zones)) {
		put, wanted, blind := make([]int, len(l.Hoppers)), make([]int, len(l.Hoppers)), false
		for _, k := range numbers {
			c := mail.Copy{Number: k, Zone: zones[k], Right: true}
			thrown, repaired := false, false
			for _, p := range partsOf(l, zones, faults, k) {
				put[p.hopper] += p.put
				wanted[p.hopper]++
				blind = blind || p.watch == 0
				thrown, repaired = thrown || p.throws, repaired || p.repaired
				n := p.put
				if p.repaired {
					n++
				}
				c.Parts = append(c.Parts, slices.Repeat([]int{p.part}, n)...)
				c.Right = c.Right && n == 1
			}
			if thrown {
				f.Thrown = append(f.Thrown, k)
				continue
			}
			f.Copies = append(f.Copies, c)
			if repaired {
				f.Repaired = append(f.Repaired, k)
			}
		}
		counts = append(counts, put)
		for h := range l.Hoppers {
			blind = blind || l.Hoppers[h].Watch == 1 && put[h] != wanted[h]
		}
		if blind {
			f.Declared = append(f.Declared, b)
		}
	}
	return f, counts
}

func sameCopy(a, b mail.Copy) bool {
	return a.Number == b.Number && a.Zone == b.Zone && a.Right == b.Right && slices.Equal(a.Parts, b.Parts)
}

func sameFlow(a, b mail.Flow) bool {
	return slices.EqualFunc(a.Copies, b.Copies, sameCopy) && slices.Equal(a.Thrown, b.Thrown) && slices.Equal(a.Repaired, b.Repaired) && slices.Equal(a.Declared, b.Declared)
}

func sameBundle(a, b mail.Bundle) bool {
	return a.Drop == b.Drop && a.Number == b.Number && a.Of == b.Of && a.Declared == b.Declared && slices.Equal(a.Copies, b.Copies)
}

// isNoFlow reports whether a flow is the zero value.
func isNoFlow(f mail.Flow) bool { return reflect.DeepEqual(f, mail.Flow{}) }

// anyLine returns a valid line.
func anyLine(rnd *rand.Rand) mail.Line {
	l := mail.Line{Batch: 1 + rnd.Intn(8)}
	watches, parts := 1+rnd.Intn(7), 1+rnd.Intn(16)
	var fed [16]bool
	for range 1 + rnd.Intn(mail.MaxHoppers) {
		h := mail.Hopper{Part: rnd.Intn(parts), Watch: 2}
		// Of some lines all faults are seen, and of some a few.
		if rnd.Intn(7) >= watches {
			h.Watch = rnd.Intn(2)
		}
		fed[h.Part] = true
		l.Hoppers = append(l.Hoppers, h)
	}
	for part := range 16 {
		if rnd.Intn(3) == 0 {
			l.Repair = append(l.Repair, part)
		}
	}
	for range 1 + rnd.Intn(api.MaxZones) {
		var zone []int
		for part, is := range fed {
			if is && rnd.Intn(4) > 0 {
				zone = append(zone, part)
			}
		}
		l.Zones = append(l.Zones, zone)
	}
	return l
}

// anyZones returns zones of a line for some copies.
func anyZones(rnd *rand.Rand, l mail.Line, copies int) []int {
	zones := make([]int, copies)
	for k := range zones {
		zones[k] = rnd.Intn(len(l.Zones))
	}
	return zones
}

// anyFaults returns faults of a run, one in so many.
func anyFaults(rnd *rand.Rand, l mail.Line, zones []int, one int) []mail.Fault {
	var faults []mail.Fault
	for k, zone := range zones {
		for _, part := range l.Zones[zone] {
			if rnd.Intn(one) == 0 {
				faults = append(faults, mail.Fault{Copy: k, Hopper: hopperOf(l, part), Double: rnd.Intn(2) == 0})
			}
		}
	}
	rnd.Shuffle(len(faults), func(i, k int) { faults[i], faults[k] = faults[k], faults[i] })
	return faults
}

// anyDrops returns drops that a flow can fill, for all or some of its copies.
func anyDrops(rnd *rand.Rand, l mail.Line, f mail.Flow) []mail.Drop {
	left := make([]int, len(l.Zones))
	for _, c := range f.Copies {
		left[c.Zone]++
	}
	var drops []mail.Drop
	for i, id := range rnd.Perm(rnd.Intn(20)) {
		zone := rnd.Intn(len(l.Zones))
		n := rnd.Intn(left[zone] + 1)
		if i%3 == 0 {
			n = left[zone]
		}
		left[zone] -= n
		drops = append(drops, mail.Drop{Id: id, Zone: zone, Copies: n})
	}
	return drops
}

func anyPack(rnd *rand.Rand, size int) mail.Pack {
	size = 1 + rnd.Intn(size)
	return mail.Pack{Size: size, Least: 1 + rnd.Intn((size+1)/2)}
}

// run returns a flow, and fails if there is an error.
func run(t *testing.T, l mail.Line, zones []int, faults []mail.Fault) mail.Flow {
	t.Helper()
	f, e := mail.Run(l, zones, faults)
	if e != api.OK {
		t.Fatal(e, l, zones, faults)
	}
	return f
}

// wild returns a number that is mostly near a limit.
func wild(rnd *rand.Rand) int {
	limits := []int{0, 0, 0, 1, 1, 2, 3, 8, 12, 15, 100, 200, 1000, 5000, 1000000, math.MaxInt, math.MinInt, math.MaxInt / 4}
	return limits[rnd.Intn(len(limits))]*(1-2*rnd.Intn(2)) + rnd.Intn(3) - 1
}

// mostly returns a number that is allowed, and now and then one that need not be.
func mostly(rnd *rand.Rand, n int) int {
	if rnd.Intn(40) == 0 {
		return wild(rnd)
	}
	return n
}

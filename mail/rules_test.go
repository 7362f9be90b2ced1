package mail_test

import (
	"math/rand"
	"reflect"
	"slices"
	"testing"

	"foldhouse/api"
	"foldhouse/edition"
	"foldhouse/mail"
)

// hasBoth reports whether a counted hopper has both misses and doubles in a batch.
func hasBoth(l mail.Line, faults []mail.Fault, batch int) bool {
	var misses, doubles [mail.MaxHoppers]bool
	for _, f := range faults {
		if f.Copy/l.Batch == batch && l.Hoppers[f.Hopper].Watch == 1 {
			misses[f.Hopper] = misses[f.Hopper] || !f.Double
			doubles[f.Hopper] = doubles[f.Hopper] || f.Double
		}
	}
	for h := range misses {
		if misses[h] && doubles[h] {
			return true
		}
	}
	return false
}

// P9.6: copies of batches that are not declared are right, but for misses and doubles of a counted hopper; copies that went in are thrown out or go on.
func TestUndeclared(t *testing.T) {
	rnd := rand.New(rand.NewSource(99))
	checked, wrong := 0, 0
	for range 4000 {
		l := anyLine(rnd)
		zones := anyZones(rnd, l, rnd.Intn(40))
		faults := anyFaults(rnd, l, zones, 2+rnd.Intn(40))
		f := run(t, l, zones, faults)
		if len(f.Copies)+len(f.Thrown) != len(zones) {
			t.Fatal(f, zones)
		}
		for _, c := range f.Copies {
			if slices.Contains(f.Thrown, c.Number) || c.Right != slices.Equal(c.Parts, l.Zones[c.Zone]) {
				t.Fatal(c, f)
			}
			if slices.Contains(f.Declared, c.Number/l.Batch) {
				continue
			}
			checked++
			if !c.Right {
				wrong++
				if !hasBoth(l, faults, c.Number/l.Batch) {
					t.Fatal(c, l, faults)
				}
			}
		}
	}
	if checked < 10000 || wrong < 10 {
		t.Error("not enough", checked, wrong)
	}
}

// P9.6: no copy is in two bundles, and the bundles of a drop have its copies, of its zone, which are right if the bundle is not declared.
func TestBundlesAddUp(t *testing.T) {
	rnd := rand.New(rand.NewSource(100))
	for range 2000 {
		l := anyLine(rnd)
		zones := anyZones(rnd, l, rnd.Intn(60))
		faults := slices.DeleteFunc(anyFaults(rnd, l, zones, 1+rnd.Intn(40)), func(f mail.Fault) bool { return f.Double })
		f := run(t, l, zones, faults)
		drops, p := anyDrops(rnd, l, f), anyPack(rnd, 12)
		bundles, e := mail.Bundles(l, f, drops, p)
		if e != api.OK {
			t.Fatal(e)
		}
		in := map[int]bool{}
		for _, d := range drops {
			n := 0
			for _, b := range bundles {
				if b.Drop != d.Id {
					continue
				}
				n += len(b.Copies)
				if len(b.Copies) > p.Size || b.Of > 1 && len(b.Copies) < p.Least {
					t.Fatal(b, p)
				}
				for _, number := range b.Copies {
					c := slices.IndexFunc(f.Copies, func(c mail.Copy) bool { return c.Number == number })
					if in[number] || zones[number] != d.Zone || !b.Declared && !f.Copies[c].Right {
						t.Fatal(number, b, d)
					}
					in[number] = true
				}
			}
			if n != d.Copies {
				t.Fatal(d, bundles)
			}
		}
	}
}

func copyOfLine(l mail.Line) mail.Line {
	l.Hoppers, l.Repair, l.Zones = slices.Clone(l.Hoppers), slices.Clone(l.Repair), slices.Clone(l.Zones)
	for i := range l.Zones {
		l.Zones[i] = slices.Clone(l.Zones[i])
	}
	return l
}

func copyOfFlow(f mail.Flow) mail.Flow {
	f.Copies, f.Thrown, f.Repaired, f.Declared = slices.Clone(f.Copies), slices.Clone(f.Thrown), slices.Clone(f.Repaired), slices.Clone(f.Declared)
	for i := range f.Copies {
		f.Copies[i].Parts = slices.Clone(f.Copies[i].Parts)
	}
	return f
}

// fill overwrites a list, and the room behind its end.
func fill(l []int) {
	l = l[:cap(l)]
	for i := range l {
		l[i] = -7
	}
}

// R4: no argument is changed, and no result shares memory with one.
func TestMemory(t *testing.T) {
	rnd := rand.New(rand.NewSource(101))
	for range 500 {
		l := anyLine(rnd)
		zones := anyZones(rnd, l, rnd.Intn(30))
		faults := anyFaults(rnd, l, zones, 3)
		line, places, pairs := copyOfLine(l), slices.Clone(zones), slices.Clone(faults)
		f := run(t, l, zones, faults)
		counts, _ := mail.Counts(l, zones, faults)
		flow, numbers := flowOf(l, zones, faults)
		drops := anyDrops(rnd, l, f)
		before := slices.Clone(drops)
		bundles, _ := mail.Bundles(l, f, drops, mail.Pack{Size: 4, Least: 2})
		lacks, _ := mail.Short(f, drops)
		feeds, _ := mail.Feeds(l, 0)
		if !sameFlow(f, flow) || !slices.EqualFunc(counts, numbers, slices.Equal) {
			t.Fatal(f, flow, counts, numbers)
		}
		for _, b := range bundles {
			fill(b.Copies)
		}
		fill(feeds)
		fill(lacks)
		for i := range counts {
			if !slices.Equal(counts[i], numbers[i]) {
				t.Fatal(counts, numbers)
			}
			fill(counts[i])
		}
		if !sameFlow(f, flow) {
			t.Fatal(f, flow)
		}
		for i, c := range f.Copies {
			if !sameCopy(c, flow.Copies[i]) {
				t.Fatal(f, flow)
			}
			fill(c.Parts)
		}
		fill(f.Thrown)
		fill(f.Repaired)
		fill(f.Declared)
		if !reflect.DeepEqual(l, line) || !slices.Equal(zones, places) || !slices.Equal(faults, pairs) || !slices.Equal(drops, before) {
			t.Fatal(l, line, zones, places, faults, pairs, drops, before)
		}
	}
}

// R4: bundles share no memory with each other.
func TestMemoryOfBundles(t *testing.T) {
	rnd := rand.New(rand.NewSource(102))
	for range 300 {
		l := anyLine(rnd)
		f := run(t, l, anyZones(rnd, l, 40), nil)
		flow, drops := copyOfFlow(f), anyDrops(rnd, l, f)
		bundles, _ := mail.Bundles(l, f, drops, mail.Pack{Size: 4, Least: 2})
		want, _ := mail.Bundles(l, f, drops, mail.Pack{Size: 4, Least: 2})
		for i, b := range bundles {
			if !sameBundle(b, want[i]) {
				t.Fatal(b, want[i])
			}
			fill(b.Copies)
		}
		if !sameFlow(f, flow) {
			t.Fatal(f, flow)
		}
	}
	x := title(2, 3, 1)
	order := []int{1, 0}
	zones, _ := mail.ZonesOf(x, order, 4)
	fill(zones)
	layers := []int{2, 5, 3}
	mail.Straight(layers, 3, 1)
	if !reflect.DeepEqual(x, title(2, 3, 1)) || !slices.Equal(order, []int{1, 0}) || !slices.Equal(layers, []int{2, 5, 3}) {
		t.Error(x, order, layers)
	}
}

func wildLine(rnd *rand.Rand) mail.Line {
	l := anyLine(rnd)
	l.Batch = mostly(rnd, l.Batch)
	for i := range l.Hoppers {
		l.Hoppers[i].Part, l.Hoppers[i].Watch = mostly(rnd, l.Hoppers[i].Part), mostly(rnd, l.Hoppers[i].Watch)
	}
	if rnd.Intn(20) == 0 {
		l.Repair = append(l.Repair, wild(rnd))
	}
	zone := rnd.Intn(len(l.Zones))
	switch rnd.Intn(40) {
	case 0:
		l.Zones[zone] = append(l.Zones[zone], wild(rnd))
	case 1:
		l.Zones = append(l.Zones, make([][]int, rnd.Intn(12))...)
	case 2:
		l.Hoppers = l.Hoppers[:0]
	}
	return l
}

func wildFlow(rnd *rand.Rand) mail.Flow {
	var f mail.Flow
	for k := range rnd.Intn(30) {
		f.Copies = append(f.Copies, mail.Copy{Number: mostly(rnd, 2*k), Zone: mostly(rnd, rnd.Intn(3))})
	}
	for b := range rnd.Intn(4) {
		f.Declared = append(f.Declared, mostly(rnd, 3*b))
	}
	return f
}

func wildDrops(rnd *rand.Rand) []mail.Drop {
	var drops []mail.Drop
	for i := range rnd.Intn(8) {
		drops = append(drops, mail.Drop{Id: mostly(rnd, i), Zone: mostly(rnd, 0), Copies: mostly(rnd, rnd.Intn(4))})
	}
	return drops
}

// expectNothing checks that with an error there is no other result.
func expectNothing(t *testing.T, e api.Errno, nothing bool) {
	t.Helper()
	if e != api.OK && !nothing {
		t.Error(e)
	}
}

// R2, P8: no function panics, and with an error there is no other result.
func TestWild(t *testing.T) {
	rnd := rand.New(rand.NewSource(103))
	runs, bundled, stacked := 0, 0, 0
	for range 20000 {
		l := wildLine(rnd)
		h, e := mail.Feeds(l, wild(rnd))
		expectNothing(t, e, h == nil)
		var zones []int
		var faults []mail.Fault
		for range rnd.Intn(10) {
			zones = append(zones, mostly(rnd, 0))
		}
		for range rnd.Intn(3) {
			faults = append(faults, mail.Fault{Copy: mostly(rnd, rnd.Intn(10)), Hopper: mostly(rnd, rnd.Intn(8)), Double: rnd.Intn(2) == 0})
		}
		f, e := mail.Run(l, zones, faults)
		c, e1 := mail.Counts(l, zones, faults)
		expectNothing(t, e, isNoFlow(f) && c == nil)
		if e != e1 {
			t.Fatal(e, e1)
		}
		p := mail.Pack{Size: mostly(rnd, 5), Least: mostly(rnd, 2)}
		sizes, e1 := mail.Sizes(p, wild(rnd))
		expectNothing(t, e1, sizes == nil)
		f, drops := wildFlow(rnd), wildDrops(rnd)
		b, e1 := mail.Bundles(l, f, drops, p)
		expectNothing(t, e1, b == nil)
		lacks, e2 := mail.Short(f, drops)
		expectNothing(t, e2, lacks == nil)
		i, k, e2 := mail.Trace(b, wild(rnd))
		expectNothing(t, e2, i == 0 && k == 0)
		n := 1 + rnd.Intn(20)
		layers, e2 := mail.Turns(mostly(rnd, n), mostly(rnd, 1+rnd.Intn(n)), mostly(rnd, rnd.Intn(2)))
		expectNothing(t, e2, layers == nil)
		is, e3 := mail.Straight([]int{wild(rnd), mostly(rnd, 3)}, wild(rnd), wild(rnd))
		expectNothing(t, e3, !is)
		places, e3 := mail.ZonesOf(edition.Title{Rate: wild(rnd)}, []int{wild(rnd)}, wild(rnd))
		expectNothing(t, e3, places == nil)
		for at, e := range map[*int]api.Errno{&runs: e, &bundled: e1, &stacked: e2} {
			if e == api.OK {
				*at++
			}
		}
	}
	if min(runs, bundled, stacked) < 3000 {
		t.Error("not enough", runs, bundled, stacked)
	}
}

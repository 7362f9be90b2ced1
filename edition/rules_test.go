package edition_test

import (
	"math"
	"math/rand"
	"slices"
	"testing"

	"foldhouse/api"
	"foldhouse/edition"
)

// P3.6: changes are like distances.
func TestDistances(t *testing.T) {
	rnd := rand.New(rand.NewSource(6))
	for range 500 {
		x := anyTitle(rnd)
		n := len(editionsOf(x))
		change := func(a, b int) int {
			plates, e := edition.Change(x, a, b)
			if e != api.OK {
				t.Errorf("%v %v %v: %+v", a, b, e, x)
			}
			return plates
		}
		for a := range n {
			for b := range n {
				if change(a, b) != change(b, a) || (change(a, b) == 0) != (a == b) {
					t.Errorf("%v %v: %+v", a, b, x)
				}
				for c := range n {
					if change(a, c) > change(a, b)+change(b, c) {
						t.Errorf("%v %v %v: %+v", a, b, c, x)
					}
				}
			}
		}
	}
}

// easier returns a title whose Ready are earlier, whose Dues are later, and whose press is faster, or as they were.
func easier(x edition.Title, rnd *rand.Rand) edition.Title {
	x = copyOf(x)
	for i := range x.Ready {
		x.Ready[i].At = rnd.Intn(x.Ready[i].At + 1)
	}
	for i := range x.Zones {
		x.Zones[i].Due += rnd.Intn(2) * rnd.Intn(100)
		x.Zones[i].Due = min(x.Zones[i].Due, edition.MaxTime)
	}
	x.Rate += rnd.Intn(2) * rnd.Intn(50)
	return x
}

// P3.6: with less to wait for no order ends later.
func TestEasier(t *testing.T) {
	rnd := rand.New(rand.NewSource(7))
	inTime := 0
	for range 3000 {
		x := anyTitle(rnd)
		y := easier(x, rnd)
		order := rnd.Perm(len(editionsOf(x)))
		before, e := edition.Slots(x, order)
		after, f := edition.Slots(y, order)
		if e != api.OK || f != api.OK {
			t.Fatal(e, f)
		}
		for i := range before {
			if after[i].End > before[i].End {
				t.Errorf("%v, not %v: %+v", after, before, x)
			}
		}
		if _, e := edition.InTime(x, order); e != api.OK {
			continue
		}
		inTime++
		if _, e := edition.InTime(y, order); e != api.OK {
			t.Errorf("%v %v: %+v", order, e, y)
		}
	}
	if inTime < 300 {
		t.Error(inTime)
	}
}

// spoil changes all that a title refers to.
func spoil(x edition.Title) {
	clear(x.Colours)
	clear(x.Pairs)
	for i := range x.Zones {
		for k := range x.Zones[i].Variants {
			x.Zones[i].Variants[k] = -7
		}
	}
	clear(x.Zones)
	clear(x.Ready)
}

// R4: no argument is changed, and no result shares memory with one, or one part of it with another.
func TestMemory(t *testing.T) {
	rnd := rand.New(rand.NewSource(8))
	for range 300 {
		x := anyTitle(rnd)
		want := editionsOf(x)
		order := rnd.Perm(len(want))
		// A list that has room behind its end must not be written to.
		x.Ready = append(x.Ready, edition.Ready{Page: 99})[:len(x.Ready)]
		before, table := copyOf(x), tableOf(x)
		copies, numbers := slices.Clone(order), slices.Clone(table)
		edition.Proves(x, table)
		edition.Slots(x, order)
		edition.InTime(x, order)
		edition.Parts(x, order)
		edition.Which(x, order, 3)
		edition.Why(x)
		best, _, _ := edition.Best(x)
		fewest, _, _ := edition.Fewest(x)
		clear(best)
		clear(fewest)
		edition.Latest(x, order, rnd.Intn(len(x.Colours)), rnd.Intn(4))
		if !same(order, copies) || !same(table, numbers) || !same(copyOf(x), before) || x.Ready[:len(x.Ready)+1][len(x.Ready)] != (edition.Ready{Page: 99}) {
			t.Errorf("%+v, not %+v", x, before)
		}
		l, e := edition.Editions(x)
		spoil(x)
		if e != api.OK || !slices.EqualFunc(l, want, sameEdition) {
			t.Errorf("%v %v, not %v", l, e, want)
		}
		for i := range l {
			_ = append(l[i].Zones, -7)
			clear(l[i].Variants)
			for k := i + 1; k < len(l); k++ {
				if !sameEdition(l[k], want[k]) {
					t.Errorf("%v, not %v", l, want)
				}
			}
		}
	}
}

// R3: nil and empty lists are the same.
func TestNilAndEmpty(t *testing.T) {
	x := example()
	x.Pairs = nil
	y := copyOf(x)
	y.Pairs, y.Ready = []int{}, []edition.Ready{}
	for _, x := range []edition.Title{x, y} {
		if n, e := edition.Plates(x); e != api.OK || n != 10 {
			t.Error(n, e)
		}
		if n, e := edition.Latest(x, []int{0, 1, 2}, 0, 0); e != api.OK || n == 0 {
			t.Error(n, e)
		}
	}
}

// anyNumber returns a number that is mostly near the limits.
func anyNumber(rnd *rand.Rand) int {
	l := []int{0, 0, 0, 1, 1, 2, 3, 4, 5, 9, 10, -1, edition.MaxTime, edition.MaxTime + 1, math.MaxInt, math.MinInt}
	return l[rnd.Intn(len(l))]
}

// twist changes a title, or not.
func twist(x *edition.Title, rnd *rand.Rand) {
	page, zone := rnd.Intn(len(x.Colours)), &x.Zones[rnd.Intn(len(x.Zones))]
	n := anyNumber(rnd)
	switch rnd.Intn(24) {
	case 0:
		x.Colours[page] = n
	case 1:
		x.Colours = append(x.Colours, n)
	case 2:
		x.Pairs = append(x.Pairs, n)
	case 3:
		x.Pairs = slices.Repeat([]int{page}, 1000)
	case 4:
		zone.Copies = n
	case 5:
		zone.Due = n
	case 6:
		zone.Variants[page] = n
	case 7:
		zone.Variants = zone.Variants[:page]
	case 8:
		x.Ready = append(x.Ready, edition.Ready{Page: n, Variant: anyNumber(rnd), At: anyNumber(rnd)})
	case 9:
		x.Start = n
	case 10:
		x.Rate = n
	case 11:
		x.Stop = n
	case 12:
		x.Hang = n
	case 13:
		x.Zones = x.Zones[:0]
	}
}

// P8: no function panics, and with an error there is no result.
func TestAnyArguments(t *testing.T) {
	rnd := rand.New(rand.NewSource(9))
	for range 5000 {
		x := anyTitle(rnd)
		table, order := tableOfSize(len(editionsOf(x)), rnd), rnd.Perm(len(editionsOf(x)))
		twist(&x, rnd)
		if rnd.Intn(3) == 0 {
			order = append(order[1:], anyNumber(rnd))
		}
		want := edition.Check(x)
		n, m := anyNumber(rnd), anyNumber(rnd)
		change, e1 := edition.Change(x, n, m)
		slots, e2 := edition.Slots(x, order)
		end, e3 := edition.InTime(x, order)
		best, sum, e4 := edition.Best(x)
		why, e5 := edition.Why(x)
		proves, e6 := edition.Proves(x, table)
		latest, e7 := edition.Latest(x, order, n, m)
		parts, e8 := edition.Parts(x, order)
		zone, number, e9 := edition.Which(x, order, n)
		if e2 != e8 || e2 != api.OK && (e3 != e2 || e7 != e2 || e9 != e2) {
			t.Errorf("%v %v %v %v %v: %v %+v", e2, e3, e7, e8, e9, order, x)
		}
		for i, e := range []api.Errno{e1, e2, e3, e4, e5, e6, e7, e8, e9} {
			if want != api.OK && e != want {
				t.Errorf("%v %v, not %v: %+v", i, e, want, x)
			}
		}
		for i, is := range []bool{
			e1 != api.OK && change != 0, e2 != api.OK && slots != nil, e3 != api.OK && e3 != api.ErrTime && end != 0, e4 != api.OK && (best != nil || sum != 0),
			e5 != api.OK && why != nil, e6 != api.OK && proves, e7 != api.OK && latest != 0, e8 != api.OK && parts != nil, e9 != api.OK && (zone != 0 || number != 0),
		} {
			if is {
				t.Errorf("%v: %v %v %v %+v", i, order, n, m, x)
			}
		}
	}
}

// tableOfSize returns a table for so many editions, with any numbers.
func tableOfSize(n int, rnd *rand.Rand) []int {
	table := make([]int, n<<n)
	for i := range table {
		table[i] = rnd.Intn(100) - 1
	}
	if rnd.Intn(4) == 0 {
		table[rnd.Intn(len(table))] = anyNumber(rnd)
	}
	return table
}

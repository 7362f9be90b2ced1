package edition_test

import (
	"math"
	"math/rand"
	"slices"
	"testing"

	"foldhouse/api"
	"foldhouse/edition"
)

// P3.1: the chapter's example 1.
func TestEditionsExample(t *testing.T) {
	x := example()
	x.Zones[2].Due = 5000
	x.Ready = []edition.Ready{{Page: 0, Variant: 1, At: 20}, {Page: 1, Variant: 1, At: 30}, {Page: 2, Variant: 1, At: 25}, {Page: 3, Variant: 1, At: 99}}
	want := []edition.Edition{
		{Zones: []int{0, 2}, Copies: 1500, Due: 5000, Variants: []int{0, 0, 0, 0}},
		{Zones: []int{1}, Copies: 300, Ready: 30, Due: edition.MaxTime, Variants: []int{0, 1, 0, 0}},
		{Zones: []int{3}, Copies: 60, Ready: 30, Due: edition.MaxTime, Variants: []int{1, 1, 1, 0}},
	}
	if l, e := edition.Editions(x); e != api.OK || !same(l, want) {
		t.Error(l, e)
	}
	if n, e := edition.Plates(x); e != api.OK || n != 9 {
		t.Error(n, e)
	}
	for _, c := range [][3]int{{0, 0, 0}, {1, 1, 0}, {2, 2, 0}, {0, 1, 1}, {1, 0, 1}, {0, 2, 5}, {2, 0, 5}, {1, 2, 5}, {2, 1, 5}} {
		if n, e := edition.Change(x, c[0], c[1]); e != api.OK || n != c[2] {
			t.Error(c, n, e)
		}
	}
	for _, n := range []int{-1, 3, math.MinInt, math.MaxInt} {
		if c, e := edition.Change(x, n, 0); e != api.ErrArg || c != 0 {
			t.Error(n, c, e)
		}
		if c, e := edition.Change(x, 0, n); e != api.ErrArg || c != 0 {
			t.Error(n, c, e)
		}
	}
}

// P3.1: a zone without copies has no edition, and counts for none.
func TestZonesWithoutCopies(t *testing.T) {
	x := example()
	x.Zones[0].Copies, x.Zones[0].Due, x.Zones[3].Copies = 0, 0, 0
	l, e := edition.Editions(x)
	if e != api.OK || len(l) != 2 || !slices.Equal(l[0].Zones, []int{1}) || !slices.Equal(l[1].Zones, []int{2}) || l[1].Due != edition.MaxTime {
		t.Error(l, e)
	}
}

// P3.1: the plates of panoramas count once, on whichever page they differ.
func TestChangeOfPanoramas(t *testing.T) {
	x := edition.Title{Colours: []int{3, 3, 2, 4, 4}, Pairs: []int{3, 0}, Rate: 1}
	for _, v := range [][]int{{0, 0, 0, 0, 0}, {1, 0, 0, 0, 0}, {0, 1, 0, 0, 0}, {1, 1, 0, 0, 0}, {0, 0, 1, 0, 0}, {0, 0, 0, 0, 9}, {1, 1, 1, 1, 1}} {
		x.Zones = append(x.Zones, zone(1, v...))
	}
	if n, e := edition.Plates(x); e != api.OK || n != 9 {
		t.Error(n, e)
	}
	for i, want := range []int{0, 3, 3, 3, 2, 4, 9} {
		if n, e := edition.Change(x, 0, i); e != api.OK || n != want {
			t.Error(i, n, e)
		}
	}
}

// P3.2: the chapter's examples 2 and 3.
func TestSlotsExample(t *testing.T) {
	x := example()
	s, e := edition.Slots(x, []int{0, 1, 2})
	if e != api.OK || !slices.Equal(s, []edition.Slot{{0, 9, 0, 1500}, {1, 1, 1540, 1840}, {2, 5, 1920, 1980}}) {
		t.Error(s, e)
	}
	for _, c := range []struct{ order, plates []int }{{[]int{0, 1, 2}, []int{9, 1, 5}}, {[]int{1, 0, 2}, []int{9, 1, 5}}, {[]int{0, 2, 1}, []int{9, 5, 5}}} {
		s, e := edition.Slots(x, c.order)
		for i := range s {
			if s[i].Edition != c.order[i] || s[i].Plates != c.plates[i] {
				t.Error(c, s, e)
			}
		}
	}
	x.Ready = []edition.Ready{{Page: 1, Variant: 1, At: 2000}}
	s, e = edition.Slots(x, []int{0, 1, 2})
	if e != api.OK || s[1] != (edition.Slot{1, 1, 2040, 2340}) || s[2] != (edition.Slot{2, 5, 2420, 2480}) {
		t.Error(s, e)
	}
}

// P3.2: the first edition begins when the press can run and its pages are ready, and the others hang their plates only then.
func TestBegin(t *testing.T) {
	x := example()
	x.Start = 100
	if s, e := edition.Slots(x, []int{2, 1, 0}); e != api.OK || s[0] != (edition.Slot{2, 9, 100, 160}) || s[1].Begin != 240 {
		t.Error(s, e)
	}
	x.Ready = []edition.Ready{{Page: 0, Variant: 1, At: 130}}
	if s, e := edition.Slots(x, []int{2, 1, 0}); e != api.OK || s[0] != (edition.Slot{2, 9, 130, 190}) {
		t.Error(s, e)
	}
	x.Ready[0].At = 99
	if s, e := edition.Slots(x, []int{2, 1, 0}); e != api.OK || s[0].Begin != 100 {
		t.Error(s, e)
	}
}

// P3.2: the seconds of printing are rounded up.
func TestSeconds(t *testing.T) {
	for _, c := range [][3]int{{1, 3000, 1}, {50, 3000, 1}, {51, 3000, 2}, {100, 3000, 2}, {1, 1, 60}, {7, 7, 60}, {1, 7, 9}, {1000000, 1, 60000000}} {
		x := blank(1, 1, 0)
		x.Zones[0].Copies, x.Rate = c[0], c[1]
		if s, e := edition.Slots(x, []int{0}); e != api.OK || s[0] != (edition.Slot{0, 1, 0, c[2]}) {
			t.Error(c, s, e)
		}
	}
}

// notOrders returns lists that are no orders of n editions, if n is at least 2.
func notOrders(n int) [][]int {
	order := ordersOf(n)[0]
	wrong := [][]int{nil, {}, order[:n-1], append(slices.Clone(order), n), append(slices.Clone(order), 0), slices.Repeat([]int{1}, n)}
	for _, i := range []int{-1, n, math.MinInt, math.MaxInt, order[0]} {
		l := slices.Clone(order)
		l[n-1] = i
		wrong = append(wrong, l)
	}
	return wrong
}

// P3.2, P3.5: lists that are no orders.
func TestNotOrders(t *testing.T) {
	for n := 2; n <= edition.MaxEditions; n++ {
		x := blank(1, n, 0)
		for i := range x.Zones {
			x.Zones[i].Variants[0] = i
		}
		for _, order := range notOrders(n) {
			slots, e1 := edition.Slots(x, order)
			end, e2 := edition.InTime(x, order)
			latest, e3 := edition.Latest(x, order, 0, 0)
			parts, e4 := edition.Parts(x, order)
			zone, number, e5 := edition.Which(x, order, 0)
			for i, e := range []api.Errno{e1, e2, e3, e4, e5} {
				if e != api.ErrArg {
					t.Error(n, order, i, e)
				}
			}
			if slots != nil || end != 0 || latest != 0 || parts != nil || zone != 0 || number != 0 {
				t.Error(order, slots, end, latest, parts, zone, number)
			}
		}
	}
}

// P3.2: an order is in time to the second.
func TestInTime(t *testing.T) {
	x := example()
	order := []int{1, 0, 2}
	s, _ := edition.Slots(x, order)
	zones := []int{1, 2, 3}
	for i, zone := range zones {
		y := copyOf(x)
		y.Zones[zone].Due = s[i].End
		if n, e := edition.InTime(y, order); e != api.OK || n != s[2].End {
			t.Error(i, n, e)
		}
		y.Zones[zone].Due--
		if n, e := edition.InTime(y, order); e != api.ErrTime || n != i {
			t.Error(i, n, e)
		}
		y.Zones[3].Due = 0
		if n, e := edition.InTime(y, order); e != api.ErrTime || n != i {
			t.Error(i, n, e)
		}
	}
	if n, e := edition.InTime(largest(), []int{0, 1, 2, 3, 4, 5, 6}); e != api.ErrTime || n != 0 {
		t.Error(n, e)
	}
}

// P3.1, P3.2: editions, changes and slots of any titles.
func TestAnySlots(t *testing.T) {
	rnd := rand.New(rand.NewSource(1))
	late := 0
	for range 2000 {
		x := anyTitle(rnd)
		want := editionsOf(x)
		if l, e := edition.Editions(x); e != api.OK || !slices.EqualFunc(l, want, sameEdition) {
			t.Errorf("%v %v, not %v: %+v", l, e, want, x)
		}
		for a := range want {
			for b := range want {
				if n, e := edition.Change(x, a, b); e != api.OK || n != changeOf(x, want[a].Variants, want[b].Variants) {
					t.Errorf("%v %v %v %v: %+v", a, b, n, e, x)
				}
			}
		}
		order := rnd.Perm(len(want))
		slots := slotsOf(x, order)
		if s, e := edition.Slots(x, order); e != api.OK || !slices.Equal(s, slots) {
			t.Errorf("%v %v, not %v: %+v", s, e, slots, x)
		}
		if n, e := edition.Plates(x); e != api.OK || n != slots[0].Plates {
			t.Errorf("%v %v: %+v", n, e, x)
		}
		n, e := edition.InTime(x, order)
		if first := lateOf(x, slots); first >= 0 {
			late++
			if n != first || e != api.ErrTime {
				t.Errorf("%v %v, not %v: %+v", n, e, first, x)
			}
		} else if n != slots[len(slots)-1].End || e != api.OK {
			t.Errorf("%v %v: %+v", n, e, x)
		}
	}
	if late < 200 || late > 1800 {
		t.Error(late)
	}
}

package edition_test

import (
	"math/rand"
	"slices"
	"testing"

	"foldhouse/api"
	"foldhouse/edition"
)

// expectOrder checks what Fewest or Best has returned.
func expectOrder(t *testing.T, order []int, plates int, e api.Errno, want []int, sum int) {
	t.Helper()
	if e != api.OK || !slices.Equal(order, want) || plates != sum {
		t.Error(order, plates, e)
	}
}

// P3.3: the chapter's example 2.
func TestFewestExample(t *testing.T) {
	order, n, e := edition.Fewest(example())
	expectOrder(t, order, n, e, []int{0, 1, 2}, 15)
	late := example()
	late.Start = edition.MaxTime
	order, n, e = edition.Fewest(late)
	expectOrder(t, order, n, e, []int{0, 1, 2}, 15)
}

// P3.3: the chapter's example 4.
func TestBestExample(t *testing.T) {
	x := example()
	order, n, e := edition.Best(x)
	expectOrder(t, order, n, e, []int{0, 1, 2}, 15)
	x.Zones[3].Due = 100
	order, n, e = edition.Best(x)
	expectOrder(t, order, n, e, []int{2, 0, 1}, 15)
	x.Zones[1].Due = 100
	if order, n, e := edition.Best(x); e != api.ErrNone || order != nil || n != 0 {
		t.Error(order, n, e)
	}
}

// expectEnd checks when an order that is in time ends.
func expectEnd(t *testing.T, x edition.Title, want int, order ...int) {
	t.Helper()
	if n, e := edition.InTime(x, order); e != api.OK || n != want {
		t.Error(order, n, e)
	}
}

// P3.3: of orders with as many plates the one that ends first is the best, and of these the lesser one.
func TestBestEnd(t *testing.T) {
	x := waiting()
	for i := range x.Zones {
		x.Zones[i].Due = edition.MaxTime
	}
	best := func(late edition.Ready, want ...int) {
		t.Helper()
		x.Ready = []edition.Ready{late}
		order, n, e := edition.Best(x)
		expectOrder(t, order, n, e, want, 16)
		order, n, e = edition.Fewest(x)
		expectOrder(t, order, n, e, []int{0, 1, 2}, 16)
	}
	best(edition.Ready{}, 0, 1, 2)
	expectEnd(t, x, 320, 0, 1, 2)
	expectEnd(t, x, 320, 2, 1, 0)
	// Edition 0 must wait.
	best(edition.Ready{Page: 0, Variant: 0, At: 500}, 2, 1, 0)
	expectEnd(t, x, 820, 0, 1, 2)
	expectEnd(t, x, 630, 2, 1, 0)
	// The editions 1 and 2 must wait.
	best(edition.Ready{Page: 0, Variant: 1, At: 500}, 0, 1, 2)
}

// P3.3: fewer plates count more than an earlier end.
func TestBestPlates(t *testing.T) {
	x := edition.Title{
		Colours: []int{4, 4, 1},
		Zones:   []edition.Zone{zone(60, 0, 0, 0), zone(60, 1, 0, 1), zone(60, 1, 1, 0)},
		Ready:   []edition.Ready{{Page: 2, Variant: 1, At: 1000}},
		Rate:    60,
		Stop:    30,
		Hang:    10,
	}
	order, n, e := edition.Best(x)
	expectOrder(t, order, n, e, []int{0, 1, 2}, 19)
	expectEnd(t, x, 1280, 0, 1, 2)
	// 22 plates.
	expectEnd(t, x, 1140, 0, 2, 1)
}

// P3.3: an edition that waits can have fewer plates to change if another one is printed before it.
func TestBestWaits(t *testing.T) {
	x := waiting()
	order, n, e := edition.Best(x)
	expectOrder(t, order, n, e, []int{0, 1, 2}, 16)
	if n, e := edition.InTime(x, []int{0, 1, 2}); e != api.OK || n != 1130 {
		t.Error(n, e)
	}
	if n, e := edition.InTime(x, []int{0, 2, 1}); e != api.ErrTime || n != 1 {
		t.Error(n, e)
	}
}

// P3.3: one edition has one order.
func TestBestOfOne(t *testing.T) {
	x := blank(1, 12, 0)
	order, n, e := edition.Best(x)
	expectOrder(t, order, n, e, []int{0}, 1)
	order, n, e = edition.Fewest(x)
	expectOrder(t, order, n, e, []int{0}, 1)
	x.Zones[11].Due = 60*12 - 1
	if order, n, e := edition.Best(x); e != api.ErrNone || order != nil || n != 0 {
		t.Error(order, n, e)
	}
}

// P3.3: of the orders of the largest title all have as many plates.
func TestFewestOfLargest(t *testing.T) {
	order, n, e := edition.Fewest(largest())
	expectOrder(t, order, n, e, []int{0, 1, 2, 3, 4, 5, 6}, 32*4+6*4)
	if order, n, e := edition.Best(largest()); e != api.ErrNone || order != nil || n != 0 {
		t.Error(order, n, e)
	}
}

// P3.3, P3.6: no order has fewer plates than Fewest, and none in time fewer than Best; of several the right one is returned.
func TestAllOrders(t *testing.T) {
	rnd := rand.New(rand.NewSource(2))
	none, other := 0, 0
	for range 1000 {
		x := anyTitle(rnd)
		var fewest, best []int
		var least, value []int
		for _, order := range ordersOf(len(editionsOf(x))) {
			s := slotsOf(x, order)
			sum := []int{platesOf(s), s[len(s)-1].End}
			if fewest == nil || sum[0] < least[0] {
				fewest, least = order, sum
			}
			if lateOf(x, s) < 0 && (best == nil || slices.Compare(sum, value) < 0) {
				best, value = order, sum
			}
		}
		if order, n, e := edition.Fewest(x); e != api.OK || !slices.Equal(order, fewest) || n != least[0] {
			t.Errorf("%v %v %v, not %v %v: %+v", order, n, e, fewest, least, x)
		}
		order, n, e := edition.Best(x)
		if best == nil {
			none++
			if e != api.ErrNone || order != nil || n != 0 {
				t.Errorf("%v %v %v, not none: %+v", order, n, e, x)
			}
			continue
		}
		if e != api.OK || !slices.Equal(order, best) || n != value[0] {
			t.Errorf("%v %v %v, not %v %v: %+v", order, n, e, best, value, x)
		}
		if !slices.Equal(best, fewest) {
			other++
		}
	}
	if none < 100 || other < 100 {
		t.Error(none, other)
	}
}

package van_test

import (
	"math"
	"math/rand"
	"slices"
	"testing"

	"foldhouse/api"
	"foldhouse/van"
)

func expectDrive(t *testing.T, f van.Fleet, stops []int, leave, end int, comes ...int) {
	t.Helper()
	tour, l, e := van.Drive(f, stops)
	if e != api.OK || tour.Leave != leave || tour.End != end || !slices.Equal(tour.Stops, stops) || !slices.Equal(l, comes) {
		t.Error(f, stops, tour, l, e)
	}
}

func expectSlack(t *testing.T, f van.Fleet, want int, stops ...int) {
	t.Helper()
	if n, e := van.Slack(f, stops); n != want || e != api.OK {
		t.Error(f, stops, n, e)
	}
}

// expectNoDrive checks that Drive and Slack return an error.
func expectNoDrive(t *testing.T, f van.Fleet, want api.Errno, stops ...int) {
	t.Helper()
	tour, comes, e := van.Drive(f, stops)
	n, e1 := van.Slack(f, stops)
	if e != want || e1 != want || !isNoTour(tour) || comes != nil || n != 0 {
		t.Error(f, stops, tour, comes, n, e, e1)
	}
}

func expectLeast(t *testing.T, f van.Fleet, stops []int, leave, end int, want ...int) {
	t.Helper()
	tour, e := van.Least(f, stops)
	if e != api.OK || tour.Leave != leave || tour.End != end || !slices.Equal(tour.Stops, want) {
		t.Error(f, stops, tour, e)
	}
}

func expectNoLeast(t *testing.T, f van.Fleet, want api.Errno, stops ...int) {
	t.Helper()
	if tour, e := van.Least(f, stops); e != want || !isNoTour(tour) {
		t.Error(f, stops, tour, e)
	}
}

// Example 1 of the chapter.
func TestExampleOne(t *testing.T) {
	expectDrive(t, example(), []int{0, 1}, 70, 109, 80, 87)
	expectDrive(t, example(), []int{1, 0}, 70, 109, 90, 97)
	expectLeast(t, example(), []int{0, 1}, 70, 109, 0, 1)
	expectLeast(t, example(), []int{1, 0}, 70, 109, 0, 1)
}

// Example 3 of the chapter.
func TestExampleThree(t *testing.T) {
	f := changed(func(f *van.Fleet) { f.Stops[1].Close = 86 })
	expectNoDrive(t, f, api.ErrTime, 0, 1)
	expectNoDrive(t, f, api.ErrTime, 1, 0)
	expectDrive(t, f, []int{1}, 60, 102, 80)
	expectNoLeast(t, f, api.ErrNone, 0, 1)
	expectLeast(t, f, []int{1}, 60, 102, 1)
	f.Stops[1].Close = 87
	expectDrive(t, f, []int{0, 1}, 70, 109, 80, 87)
	expectNoDrive(t, f, api.ErrTime, 1, 0)
}

// P10.1: when a van comes, waits, leaves and is back.
func TestDrive(t *testing.T) {
	f := free([]int{0, 1, 20, 300}, []int{2, 0, 3, 400}, []int{30, 4, 0, 500}, []int{600, 5, 6, 0})
	expectDrive(t, f, []int{0}, 0, 3, 1)
	expectDrive(t, f, []int{0, 1}, 0, 34, 1, 4)
	expectDrive(t, f, []int{1, 0}, 0, 26, 20, 24)
	expectDrive(t, f, []int{2, 1, 0}, 0, 312, 300, 306, 310)
	f.Stops[1] = van.Stop{Ready: 7, Open: 50, Close: 50, Serve: 120}
	expectDrive(t, f, []int{0, 1}, 7, 200, 8, 11)
	expectDrive(t, f, []int{1, 0}, 7, 176, 27, 174)
	expectDrive(t, f, []int{0}, 0, 3, 1)
	f.Start = 30
	expectDrive(t, f, []int{1}, 30, 200, 50)
	expectDrive(t, f, []int{0}, 30, 33, 31)
	f.Start = 31
	expectNoDrive(t, f, api.ErrTime, 1)
	expectDrive(t, f, []int{0, 1}, 31, 200, 32, 35)
	f.Back = 200
	expectDrive(t, f, []int{0, 1}, 31, 200, 32, 35)
	f.Back = 199
	expectNoDrive(t, f, api.ErrTime, 0, 1)
	expectDrive(t, stops(1), []int{0}, 0, 0, 0)
	late := stops(1)
	late.Start, late.Stops[0] = 1440, van.Stop{Open: 1440, Close: 1440}
	expectDrive(t, late, []int{0}, 1440, 1440, 1440)
	late.Stops[0].Serve = 1
	expectNoDrive(t, late, api.ErrTime, 0)
	late.Start, late.Back = 1, 0
	expectNoDrive(t, late, api.ErrTime, 0)
}

// P10.1: the errors of tours, in their order.
func TestErrorOfTour(t *testing.T) {
	for _, l := range [][]int{nil, {}, {2}, {-1}, {0, 2}, {math.MaxInt}, {math.MinInt}, {64}, {0, 0}, {1, 0, 1}, {0, 1, 0, 1}} {
		for _, f := range []van.Fleet{example(), changed(func(f *van.Fleet) { f.Capacity, f.Back = 99, 0 })} {
			expectNoDrive(t, f, api.ErrArg, l...)
			expectNoLeast(t, f, api.ErrArg, l...)
		}
	}
	f := changed(func(f *van.Fleet) { f.Capacity, f.Back = 199, 0 })
	expectNoDrive(t, f, api.ErrVan, 1, 0)
	expectNoLeast(t, f, api.ErrVan, 1, 0)
	expectNoDrive(t, f, api.ErrTime, 1)
	expectNoLeast(t, f, api.ErrNone, 1)
	f.Capacity = 200
	expectNoDrive(t, f, api.ErrTime, 1, 0)
	expectNoLeast(t, f, api.ErrNone, 1, 0)
	f.Back = 109
	expectDrive(t, f, []int{1, 0}, 70, 109, 90, 97)
	full := stops(8)
	for i := range full.Stops {
		full.Stops[i].Load = 10000
	}
	full.Capacity = 79999
	expectNoDrive(t, full, api.ErrVan, 0, 1, 2, 3, 4, 5, 6, 7)
	expectDrive(t, full, []int{7, 6, 5, 4, 3, 2, 1}, 0, 0, 0, 0, 0, 0, 0, 0, 0)
	full.Capacity = 80000
	expectLeast(t, full, []int{7, 1, 2, 3, 4, 5, 6, 0}, 0, 0, 0, 1, 2, 3, 4, 5, 6, 7)
}

// P10.1: by how much later a tour can leave.
func TestSlack(t *testing.T) {
	expectSlack(t, changed(func(f *van.Fleet) { f.Stops[1].Close = 86 }), 6, 1)
	expectSlack(t, changed(func(f *van.Fleet) { f.Stops[1].Close = 87 }), 0, 0, 1)
	wait := changed(func(f *van.Fleet) { f.Stops[1].Open, f.Back = 100, 125 })
	expectSlack(t, wait, 23, 1)
	wait.Back = 122
	expectSlack(t, wait, 20, 1)
	expectSlack(t, example(), 1440-109, 0, 1)
	expectSlack(t, example(), 1440-102, 1)
	expectSlack(t, changed(func(f *van.Fleet) { f.Stops[0].Close = 90 }), 10, 0, 1)
	expectSlack(t, changed(func(f *van.Fleet) { f.Stops[0].Close, f.Stops[0].Open, f.Stops[1].Close = 90, 90, 97 }), 10, 0, 1)
	expectSlack(t, stops(1), 1440, 0)
}

// expectTours checks all that is said of tours of stops, with the words of the chapter.
func expectTours(t *testing.T, f van.Fleet, stops []int) {
	t.Helper()
	if load(f, stops) > f.Capacity {
		expectNoDrive(t, f, api.ErrVan, stops...)
		expectNoLeast(t, f, api.ErrVan, stops...)
		return
	}
	leaves := leave(f, stops)
	if comes, end, right := drive(f, stops, leaves); right {
		expectDrive(t, f, stops, leaves, end, comes...)
		expectLater(t, f, stops, leaves)
	} else {
		expectNoDrive(t, f, api.ErrTime, stops...)
	}
	if order, end := least(f, stops); end >= 0 {
		expectLeast(t, f, stops, leaves, end, order...)
	} else {
		expectNoLeast(t, f, api.ErrNone, stops...)
	}
}

// expectLater checks that a tour that leaves later by its slack is right, and by more is not (P10.4).
func expectLater(t *testing.T, f van.Fleet, stops []int, leaves int) {
	t.Helper()
	slack, e := van.Slack(f, stops)
	if e != api.OK || slack < 0 {
		t.Fatal(f, stops, slack, e)
	}
	for later := range slack + 5 {
		if _, _, right := drive(f, stops, leaves+later); right != (later <= slack) {
			t.Fatal(f, stops, slack, later)
		}
	}
}

// P10.1: what tours do, by the words of the chapter.
func TestAnyTour(t *testing.T) {
	rnd := rand.New(rand.NewSource(10))
	right, moved := 0, 0
	for range 3000 {
		f := anyFleet(rnd, 1+rnd.Intn(6))
		stops := rnd.Perm(len(f.Stops))[:1+rnd.Intn(len(f.Stops))]
		expectTours(t, f, stops)
		order, end := least(f, stops)
		if end >= 0 {
			right++
		}
		if end >= 0 && !slices.IsSorted(order) {
			moved++
		}
	}
	if right < 500 || moved < 200 || right > 2500 {
		t.Error("not enough", right, moved)
	}
}

// P10.1: the least tour of many stops.
func TestLeastOfEight(t *testing.T) {
	rnd := rand.New(rand.NewSource(11))
	for range 5 {
		f := anyFleet(rnd, 8)
		f.Capacity, f.Back = 100, 1440
		for i := range f.Stops {
			f.Stops[i].Close = min(1440, f.Stops[i].Open+40+rnd.Intn(100))
		}
		expectTours(t, f, rnd.Perm(8))
	}
}

package van_test

import (
	"math"
	"math/rand"
	"slices"
	"testing"

	"foldhouse/api"
	"foldhouse/van"
)

// stopsOf returns the stops of all tours.
func stopsOf(tours []van.Tour) [][]int {
	var l [][]int
	for _, tour := range tours {
		l = append(l, tour.Stops)
	}
	return l
}

func isSamePlan(a, b [][]int) bool { return slices.EqualFunc(a, b, slices.Equal) }

// expectPlan checks the least plan, and that Verify says so.
func expectPlan(t *testing.T, f van.Fleet, takes int, want ...[]int) {
	t.Helper()
	tours, n, e := van.Plan(f)
	if e != api.OK || n != takes || !isSamePlan(stopsOf(tours), want) {
		t.Fatal(f, tours, n, e)
	}
	for _, tour := range tours {
		expectTour(t, f, tour)
	}
	expectVerify(t, f, want, takes, api.OK)
}

// expectTour checks that a tour is the one that Drive returns.
func expectTour(t *testing.T, f van.Fleet, tour van.Tour) {
	t.Helper()
	if same, _, e := van.Drive(f, tour.Stops); e != api.OK || same.Leave != tour.Leave || same.End != tour.End {
		t.Error(f, tour, same, e)
	}
}

func expectNoPlan(t *testing.T, f van.Fleet) {
	t.Helper()
	if tours, n, e := van.Plan(f); e != api.ErrNone || tours != nil || n != 0 {
		t.Error(f, tours, n, e)
	}
}

func expectVerify(t *testing.T, f van.Fleet, plan [][]int, want int, code api.Errno) {
	t.Helper()
	if n, e := van.Verify(f, plan); n != want || e != code {
		t.Error(f, plan, n, e)
	}
}

func expectEnds(t *testing.T, f van.Fleet, want ...int) {
	t.Helper()
	if ends, e := van.Ends(f); e != api.OK || !slices.Equal(ends, want) {
		t.Error(f, ends, e)
	}
}

func expectEnough(t *testing.T, f van.Fleet, ends []int, vans int, want bool, code api.Errno) {
	t.Helper()
	if is, e := van.Enough(f, ends, vans); is != want || e != code {
		t.Error(f, ends, vans, is, e)
	}
}

func small() van.Fleet { return changed(func(f *van.Fleet) { f.Capacity = 150 }) }

// Example 2 of the chapter, and the plan of example 1.
func TestExampleTwo(t *testing.T) {
	expectPlan(t, example(), 39, []int{0, 1})
	expectEnds(t, example(), -1, 92, 102, 109)
	expectPlan(t, small(), 64, []int{0}, []int{1})
	expectEnds(t, small(), -1, 92, 102, -1)
	tours, _, _ := van.Plan(small())
	if tours[0].Leave != 70 || tours[0].End != 92 || tours[1].Leave != 60 || tours[1].End != 102 {
		t.Error(tours)
	}
}

// P10.2: plans in which a stop is reached in time only over another one, or fits to none.
func TestPlan(t *testing.T) {
	over := free([]int{0, 1, 600}, []int{1, 0, 1}, []int{1, 1, 0})
	over.Stops[1].Close = 10
	expectEnds(t, over, -1, 2, -1, 3)
	expectPlan(t, over, 3, []int{0, 1})
	over.Capacity, over.Stops[0].Load, over.Stops[1].Load = 1, 1, 1
	expectEnds(t, over, -1, 2, -1, -1)
	expectNoPlan(t, over)
	expectNoPlan(t, changed(func(f *van.Fleet) { f.Back = 80 }))
	expectNoPlan(t, changed(func(f *van.Fleet) { f.Capacity = 99 }))
	expectNoPlan(t, changed(func(f *van.Fleet) { f.Stops[1].Load = 201 }))
	// A van less is worth more than time.
	far := free([]int{0, 1, 1}, []int{1, 0, 600}, []int{1, 600, 0})
	expectPlan(t, far, 602, []int{0, 1})
	// Two vans, of which none carries three stops: all ways are equal, so that the lists decide.
	equal := stops(4)
	equal.Capacity = 2
	for i := range equal.Stops {
		equal.Stops[i].Load = 1
	}
	expectPlan(t, equal, 0, []int{0, 1}, []int{2, 3})
	equal.Capacity = 3
	expectPlan(t, equal, 0, []int{0}, []int{1, 2, 3})
	// Stop 1 comes before stop 0, but their tour is still the first one.
	equal.Minutes[0][1] = 5
	expectPlan(t, equal, 0, []int{1, 0}, []int{2, 3})
}

// expectPlans checks the least plan, its proof, and what Verify says of other plans.
func expectPlans(t *testing.T, f van.Fleet) int {
	t.Helper()
	best := leastPlan(f)
	if best == nil {
		expectNoPlan(t, f)
		return 0
	}
	expectPlan(t, f, takes(f, best), best...)
	ends, _ := van.Ends(f)
	expectEnough(t, f, ends, len(best), true, api.OK)
	expectEnough(t, f, ends, len(best)-1, false, api.OK)
	seen := 0
	plans(f, members(1<<len(f.Stops)-1), nil, func(plan [][]int) {
		if seen++; seen <= 30 && !isSamePlan(plan, best) {
			expectVerify(t, f, plan, 0, api.ErrFalse)
		}
	})
	return len(best)
}

// P10.2, P10.4: the least one of all plans.
func TestAnyPlan(t *testing.T) {
	rnd := rand.New(rand.NewSource(12))
	var counts [7]int
	for range 1500 {
		counts[expectPlans(t, anyFleet(rnd, 1+rnd.Intn(5)))]++
	}
	for range 10 {
		counts[expectPlans(t, anyFleet(rnd, 6))]++
	}
	if slices.Min(counts[:4]) < 20 {
		t.Error("not enough", counts)
	}
}

// P10.2: plans of equal stops, which the lists decide.
func TestEqualPlans(t *testing.T) {
	rnd := rand.New(rand.NewSource(13))
	for range 300 {
		f := stops(2 + rnd.Intn(4))
		f.Capacity = 3 + rnd.Intn(4)
		for i := range f.Stops {
			f.Stops[i].Load = 1 + rnd.Intn(3)
			f.Minutes[rnd.Intn(len(f.Minutes))][i] = rnd.Intn(2)
			f.Minutes[i][i] = 0
		}
		expectPlans(t, f)
	}
}

// P10.2: the least plan of eight stops.
func TestPlanOfEight(t *testing.T) {
	rnd := rand.New(rand.NewSource(14))
	planned := 0
	for range 6 {
		f := anyFleet(rnd, 8)
		f.Capacity = 12
		for i := range f.Stops {
			f.Stops[i].Close = 45 + rnd.Intn(20)
			f.Stops[i].Load = 3 + rnd.Intn(4)
		}
		f.Back = 70
		planned += min(1, expectPlans(t, f))
	}
	if planned < 3 {
		t.Error("not enough", planned)
	}
}

// P10.2: the table of ends, set by set.
func TestEnds(t *testing.T) {
	rnd := rand.New(rand.NewSource(15))
	for range 300 {
		f := anyFleet(rnd, 1+rnd.Intn(5))
		want := []int{-1}
		for bits := 1; bits < 1<<len(f.Stops); bits++ {
			_, end := least(f, members(bits))
			want = append(want, end)
		}
		expectEnds(t, f, want...)
	}
}

// P10.2: the errors of Verify, in their order.
func TestVerify(t *testing.T) {
	for _, plan := range [][][]int{nil, {}, {{}}, {{0}}, {{1}}, {{0}, {}, {1}}, {{}, {0, 1}}, {{0, 1}, nil}, {{1}, {0}}, {{0}, {0, 1}}, {{0, 1}, {1}}, {{0, 1, 1}}, {{0, 2}}, {{0, 1}, {2}}, {{0}, {-1}}, {{0, math.MaxInt}, {1}}} {
		for _, f := range []van.Fleet{example(), small(), changed(func(f *van.Fleet) { f.Capacity, f.Back = 0, 0 })} {
			expectVerify(t, f, plan, 0, api.ErrArg)
		}
	}
	expectVerify(t, small(), [][]int{{0, 1}}, 0, api.ErrVan)
	expectVerify(t, example(), [][]int{{1, 0}}, 0, api.ErrFalse)
	expectVerify(t, example(), [][]int{{0}, {1}}, 0, api.ErrFalse)
	expectVerify(t, small(), [][]int{{0}, {1}}, 64, api.OK)
	late := changed(func(f *van.Fleet) { f.Stops[1].Close, f.Stops[0].Load, f.Capacity = 79, 201, 200 })
	expectVerify(t, late, [][]int{{0}, {1}}, 0, api.ErrVan)
	expectVerify(t, late, [][]int{{0, 1}}, 0, api.ErrVan)
	late.Stops[0], late.Stops[1] = late.Stops[1], late.Stops[0]
	late.Stops[0].Close = 9
	expectVerify(t, late, [][]int{{0}, {1}}, 0, api.ErrTime)
	// The tour of stop 0 and 2 is in order, though it begins with stop 2.
	three := stops(3)
	three.Capacity = 1
	three.Stops[0].Load, three.Stops[1].Load = 1, 1
	three.Minutes[0][1] = 1
	expectPlan(t, three, 0, []int{2, 0}, []int{1})
	expectVerify(t, three, [][]int{{1}, {2, 0}}, 0, api.ErrArg)
	expectVerify(t, three, [][]int{{0, 2}, {1}}, 0, api.ErrFalse)
}

// P10.2: the errors of Enough, and tables that are no tables of ends.
func TestEnough(t *testing.T) {
	ends := []int{-1, 92, 102, -1}
	for vans, want := range map[int]bool{0: false, 1: false, 2: true, 3: true, 8: true, math.MaxInt: true} {
		expectEnough(t, small(), ends, vans, want, api.OK)
	}
	for _, vans := range []int{-1, math.MinInt} {
		expectEnough(t, small(), ends, vans, false, api.ErrArg)
	}
	for _, l := range [][]int{nil, {}, ends[:3], append(slices.Clone(ends), -1), make([]int, 8), {-1, 92, 102, -2}, {-1, 92, 102, 1441}, {-2, 92, 102, 5}, {math.MaxInt, 92, 102, 5}, {-1, -1, math.MinInt, -1}} {
		expectEnough(t, small(), l, 2, false, api.ErrArg)
	}
	expectEnough(t, small(), []int{-1, -1, 102, -1}, 2, false, api.ErrFalse)
	expectEnough(t, small(), []int{-1, 92, -1, 1440}, 2, false, api.ErrFalse)
	expectEnough(t, small(), []int{-1, -1, 102, -1}, -1, false, api.ErrArg)
	expectEnough(t, example(), []int{-1, 92, 102, -1}, 2, false, api.ErrFalse)
	// Numbers that are there need not be true, and that of the empty set says nothing.
	expectEnough(t, small(), []int{-1, 92, 102, 0}, 1, true, api.OK)
	expectEnough(t, small(), []int{-1, 1440, 0, -1}, 2, true, api.OK)
	expectEnough(t, small(), []int{0, 92, 102, -1}, 1, false, api.OK)
	expectEnough(t, small(), []int{1440, 92, 102, 3}, 0, false, api.OK)
	late := changed(func(f *van.Fleet) { f.Back = 0 })
	expectEnough(t, late, []int{-1, -1, -1, -1}, math.MaxInt, false, api.OK)
	expectEnough(t, late, []int{-1, 5, -1, -1}, 9, false, api.OK)
	expectEnough(t, late, []int{-1, 5, 5, -1}, 2, true, api.OK)
}

// P10.2: what any table of ends says.
func TestAnyEnds(t *testing.T) {
	rnd := rand.New(rand.NewSource(16))
	yes, no, wrong := 0, 0, 0
	for range 2000 {
		n := 1 + rnd.Intn(6)
		f := anyFleet(rnd, n)
		f.Capacity = rnd.Intn(10)
		truth, _ := van.Ends(f)
		ends := slices.Clone(truth)
		want := api.OK
		for range rnd.Intn(2 << n) {
			s := rnd.Intn(1 << n)
			ends[s] = -1 + rnd.Intn(2)*rnd.Intn(1442)
		}
		for s := range ends {
			if ends[s] < 0 && truth[s] >= 0 {
				want = api.ErrFalse
			}
		}
		vans := rnd.Intn(n + 2)
		is := want == api.OK && enough(ends, nil, vans, 0, n)
		expectEnough(t, f, ends, vans, is, want)
		switch {
		case is:
			yes++
		case want == api.OK:
			no++
		default:
			wrong++
		}
	}
	if min(yes, no, wrong) < 200 {
		t.Error("not enough", yes, no, wrong)
	}
}

// eased returns a fleet with windows that are wider, bundles that are ready earlier, and ways that are shorter.
func eased(rnd *rand.Rand, f van.Fleet) van.Fleet {
	f = copyOf(f)
	for i := range f.Stops {
		s := &f.Stops[i]
		s.Open -= rnd.Intn(1 + min(4, s.Open))
		s.Close += rnd.Intn(4)
		s.Ready -= rnd.Intn(1 + min(4, s.Ready))
	}
	for from := range f.Minutes {
		for to, n := range f.Minutes[from] {
			f.Minutes[from][to] -= rnd.Intn(1 + min(2, n))
		}
	}
	return f
}

// P10.4: with less to hinder no plan needs more vans, and tours that were right are right, and end no later; no tour comes outside of a window.
func TestEased(t *testing.T) {
	rnd := rand.New(rand.NewSource(17))
	fewer, earlier := 0, 0
	for range 6000 {
		f := anyFleet(rnd, 1+rnd.Intn(5))
		g := eased(rnd, f)
		before, _, e := van.Plan(f)
		if e != api.OK {
			continue
		}
		after, _, e := van.Plan(g)
		if e != api.OK || len(after) > len(before) {
			t.Fatal(f, g, before, after, e)
		}
		fewer += len(before) - len(after)
		for _, tour := range before {
			_, comes, _ := van.Drive(f, tour.Stops)
			for i, stop := range tour.Stops {
				if comes[i] > f.Stops[stop].Close {
					t.Fatal(f, tour, comes)
				}
			}
			now, _, e := van.Drive(g, tour.Stops)
			if e != api.OK || now.End > tour.End {
				t.Fatal(f, g, tour, now, e)
			}
			earlier += tour.End - now.End
		}
	}
	if fewer < 50 || earlier < 1000 {
		t.Error("not enough", fewer, earlier)
	}
}

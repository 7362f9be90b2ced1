package van_test

import (
	"math"
	"math/rand"
	"reflect"
	"slices"
	"testing"

	"foldhouse/api"
	"foldhouse/van"
)

// fill overwrites a list, and the room behind its end.
func fill(l []int) {
	l = l[:cap(l)]
	for i := range l {
		l[i] = -7
	}
}

// R4: no argument of a function of fleets is changed, and no result shares memory with one, or with another result.
func TestMemoryOfFleets(t *testing.T) {
	rnd := rand.New(rand.NewSource(21))
	planned := 0
	for range 300 {
		f := anyFleet(rnd, 1+rnd.Intn(5))
		before, l := copyOf(f), rnd.Perm(len(f.Stops))
		order := slices.Clone(l)
		tour, comes, _ := van.Drive(f, l)
		fill(tour.Stops)
		fill(comes)
		fastest, _ := van.Least(f, l)
		fill(fastest.Stops)
		van.Slack(f, l)
		ends, _ := van.Ends(f)
		table := slices.Clone(ends)
		van.Enough(f, ends, 2)
		if !slices.Equal(ends, table) || !slices.Equal(l, order) {
			t.Fatal(ends, table, l, order)
		}
		fill(ends)
		tours, _, e := van.Plan(f)
		if e == api.OK {
			planned++
		}
		plan := stopsOf(tours)
		want := stopsOf(tours)
		for i := range want {
			want[i] = slices.Clone(want[i])
		}
		van.Verify(f, plan)
		for i := range plan {
			if !slices.Equal(plan[i], want[i]) {
				t.Fatal(plan, want)
			}
			fill(plan[i])
		}
		if !reflect.DeepEqual(f, before) {
			t.Fatal(f, before)
		}
		if e == api.OK {
			expectVerify(t, f, want, takes(f, want), api.OK)
		}
	}
	if planned < 100 {
		t.Error("not enough", planned)
	}
}

// R4: no argument of a function of rounds is changed, and no result shares memory with one.
func TestMemoryOfRounds(t *testing.T) {
	rnd := rand.New(rand.NewSource(22))
	for range 300 {
		r := anyRound(rnd, 2+rnd.Intn(11), 40)
		streets, from := slices.Clone(r.Streets), r.Streets[0].A
		walk, n, _ := van.Walk(r, from)
		steps := slices.Clone(walk)
		van.Serves(r, from, walk)
		if !slices.Equal(walk, steps) {
			t.Fatal(walk, steps)
		}
		clear(walk)
		times, _, _ := van.Twice(r)
		fill(times)
		if !slices.Equal(r.Streets, streets) {
			t.Fatal(r, streets)
		}
		expectServes(t, r, from, steps, n, api.OK)
	}
}

// Results depend on the arguments alone.
func TestSameAgain(t *testing.T) {
	rnd := rand.New(rand.NewSource(23))
	for range 200 {
		r := anyRound(rnd, 2+rnd.Intn(11), 40)
		walk, _, _ := van.Walk(r, r.Streets[0].A)
		times, _, _ := van.Twice(r)
		for range 3 {
			other, _, _ := van.Walk(r, r.Streets[0].A)
			twice, _, _ := van.Twice(r)
			if !slices.Equal(walk, other) || !slices.Equal(times, twice) {
				t.Fatal(r, walk, other, times, twice)
			}
		}
	}
}

// wild returns a number that is mostly near a limit.
func wild(rnd *rand.Rand) int {
	limits := []int{0, 0, 0, 1, 2, 8, 10, 12, 40, 120, 600, 1000, 1440, 10000, 100000, math.MaxInt, math.MinInt, math.MaxInt / 4}
	return limits[rnd.Intn(len(limits))]*(1-2*rnd.Intn(2)) + rnd.Intn(3) - 1
}

// mostly returns a number that is allowed, and now and then one that need not be.
func mostly(rnd *rand.Rand, n int) int {
	if rnd.Intn(60) == 0 {
		return wild(rnd)
	}
	return n
}

func wildFleet(rnd *rand.Rand) van.Fleet {
	f := anyFleet(rnd, 1+rnd.Intn(4))
	for i := range f.Stops {
		s := f.Stops[i]
		f.Stops[i] = van.Stop{Load: mostly(rnd, s.Load), Ready: mostly(rnd, s.Ready), Open: mostly(rnd, s.Open), Close: mostly(rnd, s.Close), Serve: mostly(rnd, s.Serve)}
		f.Minutes[i][0] = mostly(rnd, 0)
	}
	f.Capacity, f.Start, f.Back = mostly(rnd, f.Capacity), mostly(rnd, f.Start), mostly(rnd, f.Back)
	switch rnd.Intn(40) {
	case 0:
		f.Stops = append(f.Stops, make([]van.Stop, rnd.Intn(9))...)
	case 1:
		f.Stops = f.Stops[1:]
	case 2:
		f.Minutes = f.Minutes[1:]
	case 3:
		f.Minutes[rnd.Intn(len(f.Minutes))] = nil
	}
	return f
}

func wildList(rnd *rand.Rand, l []int) []int {
	l = slices.Clone(l)
	for i := range l {
		l[i] = mostly(rnd, l[i])
	}
	return l
}

// expectNothing checks that with an error there is no other result.
func expectNothing(t *testing.T, e api.Errno, nothing bool) {
	t.Helper()
	if e != api.OK && !nothing {
		t.Error(e)
	}
}

// R2, P8: no function of fleets panics, and with an error there is no other result.
func TestWildFleets(t *testing.T) {
	rnd := rand.New(rand.NewSource(24))
	right, planned := 0, 0
	for range 10000 {
		f := wildFleet(rnd)
		l := wildList(rnd, rnd.Perm(1+rnd.Intn(4)))
		tour, comes, e := van.Drive(f, l)
		expectNothing(t, e, isNoTour(tour) && comes == nil)
		slack, e1 := van.Slack(f, l)
		expectNothing(t, e1, slack == 0)
		if e != e1 || e == api.OK && slack < 0 {
			t.Fatal(f, l, e, e1, slack)
		}
		if e == api.OK {
			right++
		}
		tour, e = van.Least(f, l)
		expectNothing(t, e, isNoTour(tour))
		ends, e := van.Ends(f)
		expectNothing(t, e, ends == nil)
		is, e := van.Enough(f, wildList(rnd, ends), wild(rnd))
		expectNothing(t, e, !is)
		tours, n, e := van.Plan(f)
		expectNothing(t, e, tours == nil && n == 0)
		if e == api.OK {
			planned++
		}
		takes, e := van.Verify(f, [][]int{l, wildList(rnd, []int{0, 1})})
		expectNothing(t, e, takes == 0)
	}
	if right < 500 || planned < 1000 {
		t.Error("not enough", right, planned)
	}
}

// R2, P8: no function of rounds panics, and with an error there is no other result.
func TestWildRounds(t *testing.T) {
	rnd := rand.New(rand.NewSource(25))
	right := 0
	for range 10000 {
		r := anyRound(rnd, 2+rnd.Intn(11), 20)
		for i, s := range r.Streets {
			r.Streets[i] = street(mostly(rnd, s.A), mostly(rnd, s.B), mostly(rnd, s.Length))
		}
		r.Corners = mostly(rnd, r.Corners)
		if rnd.Intn(40) == 0 {
			r.Streets = append(r.Streets, make([]van.Street, rnd.Intn(30))...)
		}
		from := mostly(rnd, rnd.Intn(12))
		walk, n, e := van.Walk(r, from)
		expectNothing(t, e, walk == nil && n == 0)
		if e == api.OK {
			right++
		}
		walk = append(walk, make([]van.Step, rnd.Intn(2)*max(0, mostly(rnd, 2)%2000))...)
		for i := range walk {
			walk[i].Street = mostly(rnd, walk[i].Street)
		}
		n, e = van.Serves(r, from, walk)
		expectNothing(t, e, n == 0)
		times, n, e := van.Twice(r)
		expectNothing(t, e, times == nil && n == 0)
	}
	if right < 1000 {
		t.Error("not enough", right)
	}
}

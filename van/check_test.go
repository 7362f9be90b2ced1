package van_test

import (
	"math"
	"slices"
	"testing"

	"foldhouse/api"
	"foldhouse/van"
)

// fleetCase is a fleet with an error, or without one.
type fleetCase struct {
	name string
	f    van.Fleet
	want api.Errno
}

// around returns cases for a number that may be from lo to hi.
func around(name string, want api.Errno, lo, hi int, set func(f *van.Fleet, n int)) []fleetCase {
	var l []fleetCase
	for _, n := range []int{lo, lo + 1, (lo + hi) / 2, hi - 1, hi} {
		l = append(l, fleetCase{name, changed(func(f *van.Fleet) { set(f, n) }), api.OK})
	}
	for _, n := range []int{math.MinInt, lo - 1, hi + 1, math.MaxInt} {
		l = append(l, fleetCase{name, changed(func(f *van.Fleet) { set(f, n) }), want})
	}
	return l
}

// stops returns a fleet of so many stops.
func stops(n int) van.Fleet {
	var minutes [][]int
	for range n + 1 {
		minutes = append(minutes, make([]int, n+1))
	}
	return free(minutes...)
}

func rangeCases() []fleetCase {
	last := func(f *van.Fleet) *van.Stop { return &f.Stops[1] }
	return slices.Concat(
		around("Capacity", api.ErrRange, 0, 100000, func(f *van.Fleet, n int) { f.Capacity = n }),
		around("Start", api.ErrRange, 0, 1440, func(f *van.Fleet, n int) { f.Start = n }),
		around("Back", api.ErrRange, 0, 1440, func(f *van.Fleet, n int) { f.Back = n }),
		around("Load", api.ErrRange, 0, 10000, func(f *van.Fleet, n int) { last(f).Load = n }),
		around("Ready", api.ErrRange, 0, 1440, func(f *van.Fleet, n int) { last(f).Ready = n }),
		around("Open", api.ErrRange, 0, 1440, func(f *van.Fleet, n int) { last(f).Open = n }),
		around("Close", api.ErrRange, 0, 1440, func(f *van.Fleet, n int) { last(f).Close = n }),
		around("Open and Close", api.ErrRange, 0, 1440, func(f *van.Fleet, n int) { last(f).Open, last(f).Close = n, n }),
		around("Open before Close", api.ErrRange, 0, 700, func(f *van.Fleet, n int) { last(f).Open, last(f).Close = n, 700 }),
		around("Serve", api.ErrRange, 0, 120, func(f *van.Fleet, n int) { last(f).Serve = n }),
		around("from the works", api.ErrArg, 0, 600, func(f *van.Fleet, n int) { f.Minutes[0][1] = n }),
		around("to the works", api.ErrArg, 0, 600, func(f *van.Fleet, n int) { f.Minutes[2][0] = n }),
		around("the works", api.ErrArg, 0, 0, func(f *van.Fleet, n int) { f.Minutes[0][0] = n })[5:],
		around("a place to itself", api.ErrArg, 0, 0, func(f *van.Fleet, n int) { f.Minutes[2][2] = n })[5:],
	)
}

func fleetCases() []fleetCase {
	wrong := van.Stop{Load: -1}
	return append(rangeCases(), []fleetCase{
		{"zero fleet", van.Fleet{}, api.ErrMany},
		{"no stops", stops(0), api.ErrMany},
		{"empty stops", van.Fleet{Stops: []van.Stop{}, Minutes: [][]int{{0}}}, api.ErrMany},
		{"one stop", stops(1), api.OK},
		{"8 stops", stops(8), api.OK},
		{"9 stops", stops(9), api.ErrMany},
		{"example 1", example(), api.OK},
		{"Start after Back", changed(func(f *van.Fleet) { f.Start, f.Back = 100, 0 }), api.OK},
		{"no table", changed(func(f *van.Fleet) { f.Minutes = nil }), api.ErrArg},
		{"a row too few", changed(func(f *van.Fleet) { f.Minutes = f.Minutes[:2] }), api.ErrArg},
		{"a row too many", changed(func(f *van.Fleet) { f.Minutes = append(f.Minutes, []int{0, 0, 0}) }), api.ErrArg},
		{"a nil row", changed(func(f *van.Fleet) { f.Minutes[1] = nil }), api.ErrArg},
		{"a short row", changed(func(f *van.Fleet) { f.Minutes[2] = []int{0, 0} }), api.ErrArg},
		{"a long row", changed(func(f *van.Fleet) { f.Minutes[0] = []int{0, 0, 0, 0} }), api.ErrArg},
		{"many before range", changed(func(f *van.Fleet) { f.Stops, f.Capacity = nil, -1 }), api.ErrMany},
		{"range before the table", changed(func(f *van.Fleet) { f.Minutes, f.Back = nil, -1 }), api.ErrRange},
		{"a stop before the table", changed(func(f *van.Fleet) { f.Minutes, f.Stops[0] = nil, wrong }), api.ErrRange},
		{"many before a stop", changed(func(f *van.Fleet) { f.Stops = slices.Repeat([]van.Stop{wrong}, 9) }), api.ErrMany},
	}...)
}

// P10.1: the errors of a fleet.
func TestCheck(t *testing.T) {
	for _, c := range fleetCases() {
		if e := van.Check(c.f); e != c.want {
			t.Errorf("%v: %v, not %v: %+v", c.name, e, c.want, c.f)
		}
	}
}

// All functions of fleets return the error of the fleet first, and nothing else.
func TestErrorOfFleet(t *testing.T) {
	for _, c := range fleetCases() {
		if c.want == api.OK {
			continue
		}
		tour, comes, e := van.Drive(c.f, nil)
		fastest, e1 := van.Least(c.f, nil)
		ends, e2 := van.Ends(c.f)
		plan, n, e3 := van.Plan(c.f)
		takes, e4 := van.Verify(c.f, nil)
		is, e5 := van.Enough(c.f, nil, -1)
		slack, e6 := van.Slack(c.f, nil)
		for i, e := range []api.Errno{e, e1, e2, e3, e4, e5, e6} {
			if e != c.want {
				t.Error(c.name, i, e)
			}
		}
		if !isNoTour(tour) || comes != nil || !isNoTour(fastest) || ends != nil || plan != nil || n != 0 || takes != 0 || is || slack != 0 {
			t.Error(c.name, tour, comes, fastest, ends, plan, n, takes, is, slack)
		}
	}
}

func isNoTour(tour van.Tour) bool { return tour.Stops == nil && tour.Leave == 0 && tour.End == 0 }

// roundCase is a round with an error, or without one.
type roundCase struct {
	name string
	r    van.Round
	want api.Errno
}

func street(a, b, length int) van.Street { return van.Street{A: a, B: b, Length: length} }

func round(corners int, streets ...van.Street) van.Round {
	return van.Round{Corners: corners, Streets: streets}
}

// path returns a round of so many corners, one behind the other.
func path(corners int) van.Round {
	r := round(corners)
	for i := range corners - 1 {
		r.Streets = append(r.Streets, street(i, i+1, 1))
	}
	return r
}

// pairs returns a round of which so many corners have an odd number of streets: the first ones.
func pairs(corners, odd int) van.Round {
	r := path(corners)
	r.Streets = append(r.Streets, r.Streets...)
	for i := 0; i < odd; i += 2 {
		r.Streets = append(r.Streets, street(i+1, i, 3))
	}
	return r
}

func roundCases() []roundCase {
	many := round(2, slices.Repeat([]van.Street{street(0, 1, 1)}, 40)...)
	more := round(2, slices.Repeat([]van.Street{street(0, 1, 1)}, 41)...)
	apart := round(5, street(0, 1, 1), street(3, 2, 1))
	var l []roundCase
	for _, n := range []int{math.MinInt, -1, 0, 13, math.MaxInt} {
		l = append(l, roundCase{"corners", round(n), api.ErrMany})
	}
	for _, n := range []int{math.MinInt, -1, 3, math.MaxInt} {
		l = append(l, roundCase{"A", round(3, street(0, 1, 1), street(n, 1, 1)), api.ErrVan})
		l = append(l, roundCase{"B", round(3, street(0, 1, 1), street(1, n, 1)), api.ErrVan})
	}
	for _, n := range []int{math.MinInt, -1, 0, 10001, math.MaxInt} {
		l = append(l, roundCase{"Length", round(3, street(0, 1, n)), api.ErrVan})
	}
	return append(l, []roundCase{
		{"zero round", van.Round{}, api.ErrMany},
		{"one corner", round(1), api.OK},
		{"12 corners without streets", round(12, []van.Street{}...), api.OK},
		{"a path of 12 corners", path(12), api.OK},
		{"40 streets", many, api.OK},
		{"41 streets", more, api.ErrMany},
		{"too many corners before a street", round(13, street(0, 0, 0)), api.ErrMany},
		{"a street to its corner", round(3, street(1, 1, 1)), api.ErrVan},
		{"a street of the last corner", round(3, street(2, 0, 10000)), api.OK},
		{"two parts", apart, api.ErrState},
		{"three parts", round(6, street(0, 1, 1), street(2, 3, 1), street(4, 5, 1)), api.ErrState},
		{"a corner without streets", round(4, street(3, 1, 1), street(0, 3, 1)), api.OK},
		{"a part without the first corner", round(5, street(1, 2, 1), street(3, 4, 1), street(2, 4, 1)), api.OK},
		{"a path met from its end", round(5, street(3, 4, 1), street(2, 3, 1), street(1, 2, 1), street(0, 1, 1)), api.OK},
		{"a street before two parts", round(5, append(slices.Clone(apart.Streets), street(0, 0, 1))...), api.ErrVan},
		{"no odd corner", pairs(12, 0), api.OK},
		{"10 odd corners", pairs(12, 10), api.OK},
		{"12 odd corners", pairs(12, 12), api.ErrLarge},
		{"two parts before odd corners", round(12, street(0, 1, 1), street(2, 3, 1), street(4, 5, 1), street(6, 7, 1), street(8, 9, 1), street(10, 11, 1)), api.ErrState},
	}...)
}

// P10.3: the errors of a round.
func TestCheckRound(t *testing.T) {
	for _, c := range roundCases() {
		if e := van.CheckRound(c.r); e != c.want {
			t.Errorf("%v: %v, not %v: %+v", c.name, e, c.want, c.r)
		}
	}
}

// All functions of rounds return the error of the round first, and nothing else.
func TestErrorOfRound(t *testing.T) {
	for _, c := range roundCases() {
		if c.want == api.OK {
			continue
		}
		walk, n, e := van.Walk(c.r, -1)
		length, e1 := van.Serves(c.r, -1, make([]van.Step, 1001))
		times, sum, e2 := van.Twice(c.r)
		for i, e := range []api.Errno{e, e1, e2} {
			if e != c.want {
				t.Error(c.name, i, e)
			}
		}
		if walk != nil || n != 0 || length != 0 || times != nil || sum != 0 {
			t.Error(c.name, walk, n, length, times, sum)
		}
	}
}

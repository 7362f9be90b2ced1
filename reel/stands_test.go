package reel_test

import (
	"math"
	"math/rand"
	"slices"
	"testing"

	"foldhouse/api"
	"foldhouse/reel"
)

// four is the store of the chapter's example 4.
func four() []reel.Reel { return reels(1, 50, 40, 30, 20) }

// need returns needs of the width that reels() has.
func need(lengths ...int) []reel.Need {
	var l []reel.Need
	for _, n := range lengths {
		l = append(l, reel.Need{Width: 700, Length: n})
	}
	return l
}

// expectPlan checks the least plan, which is nil if there is none.
func expectPlan(t *testing.T, store []reel.Reel, needs []reel.Need, want ...int) {
	t.Helper()
	code := api.OK
	if want == nil {
		code = api.ErrNone
	}
	if plan, e := reel.Plan(store, needs); !slices.Equal(plan, want) || e != code {
		t.Error(store, needs, plan, e)
	}
}

func expectVerify(t *testing.T, store []reel.Reel, needs []reel.Need, plan []int, used, beyond int, code api.Errno) {
	t.Helper()
	if n, more, e := reel.Verify(store, needs, plan); n != used || more != beyond || e != code {
		t.Error(store, needs, plan, n, more, e)
	}
}

// storeCase is a store with needs, with an error or without one.
type storeCase struct {
	name  string
	store []reel.Reel
	needs []reel.Need
	want  api.Errno
}

// aroundReel returns cases for a number of a reel that may be from lo to hi.
func aroundReel(name string, lo, hi int, set func(r *reel.Reel, n int)) []storeCase {
	var l []storeCase
	for _, n := range []int{math.MinInt, lo - 1, lo, (lo + hi) / 2, hi, hi + 1, math.MaxInt} {
		store := reels(100, 50, 40, 30)
		set(&store[1], n)
		c := storeCase{name, store, need(1), api.OK}
		if n < lo || n > hi {
			c.want = api.ErrReel
		}
		l = append(l, c)
	}
	return l
}

func needCases() []storeCase {
	var l []storeCase
	for n, want := range map[int]api.Errno{math.MinInt: api.ErrRange, -1: api.ErrRange, 0: api.ErrRange, 1: api.OK, 3001: api.OK, 1000000000: api.OK, 1000000001: api.ErrRange, math.MaxInt: api.ErrRange} {
		l = append(l,
			storeCase{"Width", four(), []reel.Need{{Width: 1, Length: 1}, {Width: n, Length: 1}}, want},
			storeCase{"Length", four(), []reel.Need{{Width: 1, Length: 1}, {Width: 1, Length: n}}, want})
	}
	return l
}

func storeCases() []storeCase {
	twice := func(id int) []reel.Reel { return append(four(), reel.Reel{Id: id, Width: 1}) }
	return slices.Concat(needCases(),
		aroundReel("Id", 0, 1000000, func(r *reel.Reel, n int) { r.Id = n }),
		aroundReel("Width", 1, 3000, func(r *reel.Reel, n int) { r.Width = n }),
		aroundReel("Length", 0, 20000000, func(r *reel.Reel, n int) { r.Length = n }),
		aroundReel("Core", 0, 40, func(r *reel.Reel, n int) { r.Core = n }),
		[]storeCase{
			{"empty store", nil, need(1), api.OK},
			{"ten reels", reels(0, make([]int, 10)...), need(1, 2, 3), api.OK},
			{"eleven reels", reels(0, make([]int, 11)...), need(1), api.ErrMany},
			{"no needs", four(), nil, api.ErrMany},
			{"empty needs", four(), []reel.Need{}, api.ErrMany},
			{"four needs", four(), need(1, 1, 1, 1), api.ErrMany},
			{"many before a reel", make([]reel.Reel, 2), nil, api.ErrMany},
			{"many before a need", make([]reel.Reel, 11), need(0), api.ErrMany},
			{"twice", twice(2), need(1), api.ErrTwice},
			{"twice before a need", twice(4), need(0), api.ErrTwice},
			{"twice before the next reel", append(twice(3), reel.Reel{}), need(1), api.ErrTwice},
			{"a reel before the next one twice", append([]reel.Reel{{}}, twice(3)...), need(1), api.ErrReel},
			{"a reel that is twice not allowed", append(four(), reel.Reel{Id: 1}), need(1), api.ErrReel},
			{"a reel before a need", []reel.Reel{{Width: 1, Core: 1}}, need(0), api.ErrReel},
		})
}

// P6.3: the error of a store and needs, which Plan and Verify return first.
func TestCheckStore(t *testing.T) {
	for _, c := range storeCases() {
		if e := reel.CheckStore(c.store, c.needs); e != c.want {
			t.Error(c.name, e, c.store, c.needs)
		}
		if c.want == api.OK {
			continue
		}
		if plan, e := reel.Plan(c.store, c.needs); plan != nil || e != c.want {
			t.Error(c.name, plan, e)
		}
		expectVerify(t, c.store, c.needs, []int{7, 7}, 0, 0, c.want)
	}
}

// P6.3: the chapter's example 4.
func TestPlanExample(t *testing.T) {
	expectPlan(t, four(), need(70), -1, 0, 0, -1)
	expectVerify(t, four(), need(70), []int{-1, 0, 0, -1}, 2, 0, api.OK)
	expectVerify(t, four(), need(70), []int{0, -1, -1, 0}, 0, 0, api.ErrFalse)
}

// P6.3: which plan is less.
func TestPlan(t *testing.T) {
	// Fewer reels come before less beyond, and this before the order.
	expectPlan(t, four(), need(41), 0, -1, -1, -1)
	expectPlan(t, reels(1, 10, 10, 25), need(20), -1, -1, 0)
	expectPlan(t, reels(1, 50, 40, 30), need(30), -1, -1, 0)
	expectPlan(t, reels(1, 50, 30, 30), need(30), -1, -1, 0)
	expectPlan(t, reels(1, 30, 30, 50), need(30), -1, 0, -1)
	// What is beyond counts altogether.
	expectPlan(t, reels(1, 30, 40, 50), need(30, 30), 0, 1, -1)
	expectPlan(t, reels(1, 30, 40, 50), need(40, 30), 1, 0, -1)
	expectPlan(t, reels(1, 30, 40, 50), need(50, 10), 1, -1, 0)
	expectPlan(t, four(), need(60, 60), 0, 1, 0, 1)
	expectPlan(t, four(), need(140), 0, 0, 0, 0)
	expectPlan(t, four(), need(50, 40, 50), 0, 1, 2, 2)
	// A reel that gives nothing is of no use, and a Core is not given.
	expectPlan(t, reels(1, 0, 5, 0), need(5), -1, 0, -1)
	expectPlan(t, []reel.Reel{{Id: 1, Width: 700, Length: 50, Core: 11}, {Id: 2, Width: 700, Length: 45, Core: 5}}, need(40), -1, 0)
}

// P6.3: reels go to stands of their width.
func TestPlanWidths(t *testing.T) {
	store := four()
	store[0].Width, store[1].Width = 1400, 1400
	expectPlan(t, store, []reel.Need{{Width: 700, Length: 40}}, -1, -1, 0, 0)
	expectPlan(t, store, []reel.Need{{Width: 700, Length: 10}, {Width: 1400, Length: 10}}, -1, 1, -1, 0)
	expectPlan(t, store, []reel.Need{{Width: 1400, Length: 10}, {Width: 700, Length: 25}, {Width: 700, Length: 20}}, -1, 0, 1, 2)
	expectPlan(t, store, []reel.Need{{Width: 700, Length: 51}})
	expectPlan(t, store, []reel.Need{{Width: 1400, Length: 1}, {Width: 1399, Length: 1}})
}

// P6.3: there is no plan.
func TestPlanNone(t *testing.T) {
	expectPlan(t, nil, need(1))
	expectPlan(t, []reel.Reel{}, need(1))
	expectPlan(t, reels(1, 0), need(1))
	expectPlan(t, four(), need(141))
	expectPlan(t, four(), need(45, 45, 45))
	expectPlan(t, four(), need(1000000000, 1000000000, 1000000000))
	expectPlan(t, four(), []reel.Need{{Width: 3001, Length: 1}})
	expectVerify(t, nil, need(1), nil, 0, 0, api.ErrReel)
}

// P6.3: the errors of Verify.
func TestVerify(t *testing.T) {
	store := four()
	store[3].Width = 1400
	needs := []reel.Need{{Width: 700, Length: 70}, {Width: 1400, Length: 15}}
	expectVerify(t, store, needs, []int{-1, 0, 0, 1}, 3, 5, api.OK)
	for _, plan := range [][]int{nil, {}, {-1, 0, 0}, {-1, 0, 0, 1, -1}, {-1, 0, 0, 2}, {-2, 0, 0, 1}, {math.MinInt, 0, 0, 1}, {-1, 0, 0, math.MaxInt}} {
		expectVerify(t, store, needs, plan, 0, 0, api.ErrArg)
	}
	// The width is wrong, or a stand gets too little.
	for _, plan := range [][]int{{-1, 0, 0, 0}, {0, 0, 1, 1}, {-1, -1, -1, -1}, {-1, 0, 0, -1}, {0, -1, -1, 1}, {-1, -1, -1, 1}} {
		expectVerify(t, store, needs, plan, 0, 0, api.ErrReel)
	}
	// There is a plan with fewer reels, or less beyond.
	for _, plan := range [][]int{{0, 0, 0, 1}, {0, 0, -1, 1}, {0, -1, 0, 1}} {
		expectVerify(t, store, needs, plan, 0, 0, api.ErrFalse)
	}
	// The last error of all decides.
	expectVerify(t, store, needs, []int{0, 0, 0, 5}, 0, 0, api.ErrArg)
	expectVerify(t, store, []reel.Need{{Width: 700, Length: 121}}, []int{0, 0, 0, -1}, 0, 0, api.ErrReel)
}

// valued is a plan with how many reels it uses, and what they give beyond.
type valued struct {
	plan         []int
	used, beyond int
}

// plans returns the right plans of a store, in lexicographic order.
func plans(store []reel.Reel, needs []reel.Need) []valued {
	var l []valued
	plan := make([]int, len(store))
	var choose func(i int)
	choose = func(i int) {
		if i < len(store) {
			for stand := -1; stand < len(needs); stand++ {
				plan[i] = stand
				choose(i + 1)
			}
			return
		}
		v := valued{plan: slices.Clone(plan)}
		for stand, n := range needs {
			given := 0
			for i, r := range store {
				if plan[i] != stand {
					continue
				}
				if r.Width != n.Width {
					return
				}
				given += r.Length - r.Core
				v.used++
			}
			if given < n.Length {
				return
			}
			v.beyond += given - n.Length
		}
		l = append(l, v)
	}
	choose(0)
	return l
}

// anyStore returns a store with needs for which there may be plans.
func anyStore(rnd *rand.Rand) ([]reel.Reel, []reel.Need) {
	widths, most := 1+rnd.Intn(2), either(rnd, 3, 6, 50)
	var store []reel.Reel
	for i := range rnd.Intn(8) {
		core := rnd.Intn(3)
		store = append(store, reel.Reel{Id: i, Width: 1 + rnd.Intn(widths), Length: core + rnd.Intn(most+1), Core: core})
	}
	var needs []reel.Need
	for range 1 + rnd.Intn(reel.MaxNeeds) {
		needs = append(needs, reel.Need{Width: 1 + rnd.Intn(widths), Length: 1 + rnd.Intn(most+most/2)})
	}
	return store, needs
}

// P6.3, P6.5: the least plan is less than all others, and Verify takes no other one.
func TestAnyStore(t *testing.T) {
	rnd := rand.New(rand.NewSource(63))
	found := 0
	for range 1000 {
		store, needs := anyStore(rnd)
		all := plans(store, needs)
		if len(all) == 0 {
			expectPlan(t, store, needs)
			continue
		}
		found++
		best := all[0]
		for _, v := range all {
			if v.used < best.used || v.used == best.used && v.beyond < best.beyond {
				best = v
			}
		}
		expectPlan(t, store, needs, best.plan...)
		expectVerify(t, store, needs, best.plan, best.used, best.beyond, api.OK)
		for range 5 {
			if v := all[rnd.Intn(len(all))]; !slices.Equal(v.plan, best.plan) {
				expectVerify(t, store, needs, v.plan, 0, 0, api.ErrFalse)
			}
		}
	}
	if found < 300 {
		t.Error("not enough plans", found)
	}
}

// P6.3, P8: the greatest stores.
func TestGreatStore(t *testing.T) {
	store := reels(0, slices.Repeat([]int{20000000}, 10)...)
	expectPlan(t, store, need(60000000, 60000000, 50000000), -1, 0, 0, 0, 1, 1, 1, 2, 2, 2)
	expectPlan(t, store, need(60000000, 60000000, 80000000), 0, 0, 0, 1, 1, 1, 2, 2, 2, 2)
	expectPlan(t, store, need(60000001, 60000000, 80000000))
	expectPlan(t, store, need(1, 1, 1), -1, -1, -1, -1, -1, -1, -1, 0, 1, 2)
}

package reel_test

import (
	"math"
	"math/rand"
	"reflect"
	"slices"
	"testing"

	"foldhouse/api"
	"foldhouse/reel"
)

// R3: nil lists and empty lists are the same.
func TestEmpty(t *testing.T) {
	for _, l := range [][]reel.Reel{nil, {}} {
		p := reel.Press{Cut: 500, Webs: []reel.Web{{Reels: l}}}
		expectReach(t, p, 0)
		expectSplices(t, p, 0)
		expectThrown(t, p, 0)
		expectRun(t, p, 0, 0, api.OK)
		expectRun(t, p, 1, 0, api.ErrReel)
		expectUsed(t, p, 0)
		expectPlan(t, l, need(1))
		for _, plan := range [][]int{nil, {}} {
			expectVerify(t, l, need(1), plan, 0, 0, api.ErrReel)
		}
		if e := reel.CheckStore(l, []reel.Need{}); e != api.ErrMany {
			t.Error(e)
		}
	}
}

// R4: arguments are not changed.
func TestArguments(t *testing.T) {
	p := second()
	reel.Check(p)
	reel.Splices(p, 0)
	reel.Thrown(p, 30)
	reel.Run(p, 20)
	reel.Used(p, 30)
	if !reflect.DeepEqual(p, second()) {
		t.Error(p)
	}
	store, needs, plan := four(), need(70, 20), []int{0, 1, -1, 0}
	reel.Plan(store, needs)
	reel.Verify(store, needs, plan)
	if !slices.Equal(store, four()) || !slices.Equal(needs, need(70, 20)) || !slices.Equal(plan, []int{0, 1, -1, 0}) {
		t.Error(store, needs, plan)
	}
	s, l, prices := three(), []int{0, 2}, []int{0, 10, 12, 22}
	reel.Schedule(s)
	reel.Prices(s)
	reel.Cost(s, l)
	reel.Proves(s, prices)
	if !reflect.DeepEqual(s, three()) || !slices.Equal(l, []int{0, 2}) || !slices.Equal(prices, []int{0, 10, 12, 22}) {
		t.Error(s, l, prices)
	}
}

// R4: a result that is changed changes no later one.
func TestResults(t *testing.T) {
	for range 2 {
		splices, _ := reel.Splices(second(), 0)
		spans, _ := reel.Thrown(second(), 30)
		uses, _ := reel.Used(second(), 30)
		plan, _ := reel.Plan(four(), need(70))
		l, _, _ := reel.Schedule(three())
		prices, _ := reel.Prices(three())
		if splices[0] != 9800 || spans[0].Lo != 17 || uses[0].Reel != 1 || plan[0] != -1 || l[0] != 0 || prices[0] != 0 {
			t.Error(splices, spans, uses, plan, l, prices)
		}
		splices[0], spans[0], uses[0], plan[0], l[0], prices[0] = 77, api.Span{}, reel.Use{}, 77, 77, 77
	}
}

// wild returns a number that is mostly near a limit.
func wild(rnd *rand.Rand) int {
	limits := []int{0, 0, 0, 1, 2, 20, 300, 1000, 1500, 3000, 5000, 100000, 200000, 1000000, 20000000, 1000000000, 1000000000000, math.MaxInt, math.MinInt, math.MaxInt / 4}
	return limits[rnd.Intn(len(limits))]*(1-2*rnd.Intn(2)) + rnd.Intn(3) - 1
}

// mostly returns a number that is allowed, and now and then one that need not be.
func mostly(rnd *rand.Rand, n int) int {
	if rnd.Intn(40) == 0 {
		return wild(rnd)
	}
	return n
}

func wildReels(rnd *rand.Rand) []reel.Reel {
	var l []reel.Reel
	for i := range rnd.Intn(either(rnd, 3, 12, 23)) {
		r := reel.Reel{Id: rnd.Intn(1000000) + i, Width: 1, Length: rnd.Intn(2) * reel.MaxLength}
		r.Core = either(rnd, 0, r.Length)
		l = append(l, reel.Reel{Id: mostly(rnd, r.Id), Width: mostly(rnd, 1), Length: mostly(rnd, r.Length), Core: mostly(rnd, r.Core)})
	}
	return l
}

func wildPress(rnd *rand.Rand) reel.Press {
	p := reel.Press{Cut: mostly(rnd, 300), Margin: mostly(rnd, 20)}
	for range rnd.Intn(either(rnd, 3, 8)) {
		p.Webs = append(p.Webs, reel.Web{
			Reels: wildReels(rnd), Offset: mostly(rnd, 200000), Before: mostly(rnd, 5000), After: mostly(rnd, 5000),
		})
	}
	return p
}

func wildList(rnd *rand.Rand, n int) []int {
	l := make([]int, n)
	for i := range l {
		l[i] = mostly(rnd, i*rnd.Intn(2))
	}
	return l
}

// expectNothing checks that with an error there is no other result.
func expectNothing(t *testing.T, e api.Errno, nothing bool) {
	t.Helper()
	if e != api.OK && !nothing {
		t.Error(e)
	}
}

// R2, P8: no function of presses panics, and with an error there is no other result.
func TestWildPresses(t *testing.T) {
	rnd := rand.New(rand.NewSource(7))
	right := 0
	for range 20000 {
		p := wildPress(rnd)
		n, e := reel.Reach(p)
		expectNothing(t, e, n == 0)
		if e == api.OK {
			right++
		}
		copies := mostly(rnd, n)
		places, e := reel.Splices(p, mostly(rnd, 0))
		expectNothing(t, e, places == nil)
		spans, e := reel.Thrown(p, copies)
		expectNothing(t, e, spans == nil)
		printed, e := reel.Run(p, copies/2)
		expectNothing(t, e, printed == 0)
		uses, e := reel.Used(p, copies)
		expectNothing(t, e, uses == nil)
		expectWhole(t, p, uses)
	}
	if right < 1000 {
		t.Error("not enough presses", right)
	}
}

// expectWhole checks that what is used and what rests is the Length of each reel (P6.5).
func expectWhole(t *testing.T, p reel.Press, uses []reel.Use) {
	t.Helper()
	if uses == nil {
		return
	}
	i := 0
	for _, web := range p.Webs {
		for _, r := range web.Reels {
			if u := uses[i]; u.Reel != r.Id || u.Used+u.Rest != r.Length || u.Used < 0 || u.Rest < r.Core {
				t.Error(r, u)
			}
			i++
		}
	}
}

// R2, P8: no function of stores and supplies panics, and with an error there is no other result.
func TestWildPlans(t *testing.T) {
	rnd := rand.New(rand.NewSource(8))
	for range 5000 {
		store := wildReels(rnd)
		var needs []reel.Need
		for range rnd.Intn(5) {
			needs = append(needs, reel.Need{Width: mostly(rnd, 1), Length: mostly(rnd, either(rnd, 1, reel.MaxLength, 1000000000))})
		}
		plan, e := reel.Plan(store, needs)
		expectNothing(t, e, plan == nil)
		used, beyond, e := reel.Verify(store, needs, wildList(rnd, len(store)))
		expectNothing(t, e, used == 0 && beyond == 0)
		n := rnd.Intn(23)
		s := reel.Supply{Need: wildList(rnd, n), Order: wildList(rnd, n), Keep: mostly(rnd, 1000), Room: mostly(rnd, 100)}
		l, cost, e := reel.Schedule(s)
		expectNothing(t, e, l == nil && cost == 0)
		prices, e := reel.Prices(s)
		expectNothing(t, e, prices == nil)
		cost, e = reel.Cost(s, wildList(rnd, rnd.Intn(n+1)))
		expectNothing(t, e, cost == 0)
		cost, e = reel.Proves(s, wildList(rnd, n+1))
		expectNothing(t, e, cost == 0)
	}
}

package reel_test

import (
	"math"
	"math/rand"
	"slices"
	"testing"

	"foldhouse/api"
	"foldhouse/reel"
)

// three is the supply of the chapter's example 5.
func three() reel.Supply {
	return reel.Supply{Need: []int{2, 1, 3}, Order: []int{10, 10, 10}, Keep: 2, Room: 5}
}

// weeks returns a supply of so many weeks, with the same in each one.
func weeks(n, need, order, keep, room int) reel.Supply {
	return reel.Supply{Need: slices.Repeat([]int{need}, n), Order: slices.Repeat([]int{order}, n), Keep: keep, Room: room}
}

func expectSchedule(t *testing.T, s reel.Supply, cost int, want ...int) {
	t.Helper()
	if l, n, e := reel.Schedule(s); !slices.Equal(l, want) || n != cost || e != api.OK {
		t.Error(s, l, n, e)
	}
	expectCost(t, s, want, cost, api.OK)
}

func expectCost(t *testing.T, s reel.Supply, l []int, want int, code api.Errno) {
	t.Helper()
	if n, e := reel.Cost(s, l); n != want || e != code {
		t.Error(s, l, n, e)
	}
}

func expectPrices(t *testing.T, s reel.Supply, want ...int) {
	t.Helper()
	if l, e := reel.Prices(s); !slices.Equal(l, want) || e != api.OK {
		t.Error(s, l, e)
	}
}

func expectProves(t *testing.T, s reel.Supply, prices []int, want int, code api.Errno) {
	t.Helper()
	if n, e := reel.Proves(s, prices); n != want || e != code {
		t.Error(s, prices, n, e)
	}
}

// supplyCase is a supply with an error, or without one.
type supplyCase struct {
	name string
	s    reel.Supply
	want api.Errno
}

// aroundSupply returns cases for a number of a supply that may be from 0 to hi.
func aroundSupply(name string, hi int, set func(s *reel.Supply, n int)) []supplyCase {
	var l []supplyCase
	for _, n := range []int{math.MinInt, -1, 0, 1, hi / 2, hi, hi + 1, math.MaxInt} {
		c := supplyCase{name, three(), api.OK}
		set(&c.s, n)
		if n < 0 || n > hi {
			c.want = api.ErrRange
		}
		l = append(l, c)
	}
	return l
}

func supplyCases() []supplyCase {
	uneven := func(needs, orders, keep int) reel.Supply {
		return reel.Supply{Need: make([]int, needs), Order: make([]int, orders), Keep: keep}
	}
	return slices.Concat(
		aroundSupply("Need", 1000, func(s *reel.Supply, n int) { s.Need[1] = n }),
		aroundSupply("first Need", 1000, func(s *reel.Supply, n int) { s.Need[0] = n }),
		aroundSupply("Order", 1000000, func(s *reel.Supply, n int) { s.Order[2] = n }),
		aroundSupply("Keep", 1000, func(s *reel.Supply, n int) { s.Keep = n }),
		aroundSupply("Room", 100000, func(s *reel.Supply, n int) { s.Room = n }),
		[]supplyCase{
			{"zero supply", reel.Supply{}, api.ErrMany},
			{"no weeks", uneven(0, 0, 0), api.ErrMany},
			{"a week", uneven(1, 1, 0), api.OK},
			{"20 weeks", uneven(20, 20, 0), api.OK},
			{"21 weeks", uneven(21, 21, 0), api.ErrMany},
			{"an order too many", uneven(3, 4, 0), api.ErrMany},
			{"an order too few", uneven(3, 2, 0), api.ErrMany},
			{"no orders", uneven(3, 0, 0), api.ErrMany},
			{"no needs", uneven(0, 3, 0), api.ErrMany},
			{"many before range", uneven(3, 4, -1), api.ErrMany},
			{"20 weeks of much", weeks(20, 1000, 1000000, 1000, 100000), api.OK},
		})
}

// P6.4: the error of a supply, which all functions return first.
func TestCheckSupply(t *testing.T) {
	for _, c := range supplyCases() {
		if e := reel.CheckSupply(c.s); e != c.want {
			t.Error(c.name, e, c.s)
		}
		if c.want == api.OK {
			continue
		}
		if l, n, e := reel.Schedule(c.s); l != nil || n != 0 || e != c.want {
			t.Error(c.name, l, n, e)
		}
		if l, e := reel.Prices(c.s); l != nil || e != c.want {
			t.Error(c.name, l, e)
		}
		expectCost(t, c.s, []int{-1}, 0, c.want)
		expectProves(t, c.s, []int{-1}, 0, c.want)
	}
}

// P6.4: the chapter's example 5.
func TestSupplyExample(t *testing.T) {
	expectSchedule(t, three(), 22, 0, 2)
	expectCost(t, three(), []int{0, 1, 2}, 30, api.OK)
	expectCost(t, three(), []int{0}, 24, api.OK)
	expectCost(t, three(), []int{0, 1}, 26, api.OK)
	expectPrices(t, three(), 0, 10, 12, 22)
	expectProves(t, three(), []int{0, 10, 12, 22}, 22, api.OK)
}

// P6.4: of several schedules with the least cost the lesser one is returned.
func TestEqualSchedules(t *testing.T) {
	expectSchedule(t, weeks(1, 5, 7, 9, 0), 7, 0)
	expectSchedule(t, weeks(2, 1, 4, 4, 5), 8, 0)
	expectSchedule(t, weeks(4, 1, 4, 4, 5), 16, 0, 1, 2)
	expectSchedule(t, weeks(5, 1, 4, 4, 5), 20, 0, 1, 2, 3)
	expectSchedule(t, weeks(4, 0, 0, 0, 0), 0, 0)
	expectSchedule(t, weeks(4, 3, 0, 1, 9), 0, 0, 1, 2, 3)
	// An order of week 1 costs nothing: 0, 1, 2 is less than 0, 2, and 0, 1 than both if it does for week 2.
	s := reel.Supply{Need: []int{1, 0, 1}, Order: []int{5, 0, 0}, Keep: 1, Room: 1}
	expectSchedule(t, s, 5, 0, 1, 2)
	s.Keep = 0
	expectSchedule(t, s, 5, 0)
	s.Room = 0
	expectSchedule(t, s, 5, 0, 1, 2)
}

// P6.4: what is kept has room.
func TestRoom(t *testing.T) {
	s := three()
	s.Order = []int{10, 1000, 1000}
	for room, want := range []int{2010, 1012, 1012, 1012, 24, 24} {
		s.Room = room
		switch {
		case room < 1:
			expectSchedule(t, s, want, 0, 1, 2)
		case room < 4:
			expectSchedule(t, s, want, 0, 2)
		default:
			expectSchedule(t, s, want, 0)
		}
	}
	s.Room = 3
	expectCost(t, s, []int{0}, 0, api.ErrState)
	expectCost(t, s, []int{0, 1}, 1016, api.OK)
	s.Room = 2
	expectCost(t, s, []int{0, 1}, 0, api.ErrState)
	expectCost(t, s, []int{0, 2}, 1012, api.OK)
	// What is needed in the week of an order is not kept.
	expectCost(t, weeks(3, 1000, 1, 1, 0), []int{0, 1, 2}, 3, api.OK)
	expectCost(t, weeks(3, 1000, 1, 1, 999), []int{0, 1}, 0, api.ErrState)
}

// P6.4: lists that are no schedules.
func TestCostErrors(t *testing.T) {
	s := weeks(4, 1, 1, 1, 0)
	for _, l := range [][]int{nil, {}, {1}, {-1, 0}, {0, 0}, {0, 2, 1}, {0, 1, 1}, {0, 4}, {0, 1, 2, 3, 4}, {0, -1}, {1, 0}, {math.MinInt}, {0, math.MaxInt}, {0, math.MaxInt, math.MinInt}} {
		expectCost(t, s, l, 0, api.ErrArg)
	}
	expectCost(t, s, []int{0, 1, 2, 3}, 4, api.OK)
	expectCost(t, s, []int{0, 1, 3}, 0, api.ErrState)
	expectCost(t, s, []int{0}, 0, api.ErrState)
}

// P6.4: lists that are no prices, and prices that prove nothing.
func TestProves(t *testing.T) {
	s := three()
	for _, l := range [][]int{nil, {}, {0, 10, 12}, {0, 10, 12, 22, 22}, {1, 10, 12, 22}, {-1, 10, 12, 22}, {0, 10, 12, 1000000000001}, {0, -1000000000001, 0, 0}, {0, math.MinInt, 0, 0}, {0, 0, 0, math.MaxInt}} {
		expectProves(t, s, l, 0, api.ErrArg)
	}
	for _, l := range [][]int{{0, 11, 12, 22}, {0, 10, 13, 22}, {0, 10, 12, 23}, {0, 0, 12, 22}, {0, 10, 11, 22}, {0, 1000000000000, 1000000000000, 1000000000000}, {0, -1000000000000, 0, 0}} {
		expectProves(t, s, l, 0, api.ErrFalse)
	}
	expectProves(t, s, []int{0, 0, 0, 5}, 5, api.OK)
	expectProves(t, s, []int{0, 0, 0, 0}, 0, api.OK)
	expectProves(t, s, []int{0, 6, 12, 22}, 22, api.OK)
	expectProves(t, s, []int{0, 5, 12, 22}, 0, api.ErrFalse)
	expectProves(t, s, []int{0, -1000000000000, -1000000000000, -1000000000000}, -1000000000000, api.OK)
	// An order for which there is no room proves nothing against them.
	expectProves(t, s, []int{0, 10, 20, 24}, 0, api.ErrFalse)
	s.Room = 0
	expectPrices(t, s, 0, 10, 20, 30)
	expectProves(t, s, []int{0, 10, 20, 24}, 24, api.OK)
}

// costOf returns the cost of a schedule, week by week, and whether it is right.
func costOf(s reel.Supply, l []int) (int, bool) {
	cost, stock, right := 0, 0, true
	for week, n := range s.Need {
		if slices.Contains(l, week) {
			cost += s.Order[week]
			for later := week; later < len(s.Need) && (later == week || !slices.Contains(l, later)); later++ {
				stock += s.Need[later]
			}
		}
		stock -= n
		cost += s.Keep * stock
		right = right && stock <= s.Room
	}
	return cost, right
}

// cheapest returns the lesser one of all right schedules with the least cost.
func cheapest(s reel.Supply) ([]int, int) {
	var best []int
	least := math.MaxInt
	for set := 1; set < 1<<len(s.Need); set += 2 {
		var l []int
		for week := range s.Need {
			if set>>week&1 == 1 {
				l = append(l, week)
			}
		}
		if cost, right := costOf(s, l); right && (cost < least || cost == least && slices.Compare(l, best) < 0) {
			best, least = l, cost
		}
	}
	return best, least
}

// anySupply returns a supply of a few weeks, in which costs are often equal.
func anySupply(rnd *rand.Rand) reel.Supply {
	s := reel.Supply{Keep: rnd.Intn(3), Room: either(rnd, 0, 2, 4, 8, 100)}
	most := either(rnd, 1, 3, 12)
	for range 1 + rnd.Intn(8) {
		s.Need = append(s.Need, rnd.Intn(4))
		s.Order = append(s.Order, rnd.Intn(most+1))
	}
	return s
}

// first returns the first weeks of a supply.
func first(s reel.Supply, n int) reel.Supply {
	s.Need, s.Order = s.Need[:n], s.Order[:n]
	return s
}

// P6.4, P6.5: schedules and prices, by the words of the chapter.
func TestAnySupply(t *testing.T) {
	rnd := rand.New(rand.NewSource(64))
	for range 1000 {
		s := anySupply(rnd)
		l, cost := cheapest(s)
		expectSchedule(t, s, cost, l...)
		want := []int{0}
		for n := range s.Need {
			_, cost := cheapest(first(s, n+1))
			want = append(want, cost)
		}
		expectPrices(t, s, want...)
		expectProves(t, s, want, cost, api.OK)
		for range 5 {
			l := []int{0}
			for week := 1; week < len(s.Need); week++ {
				if rnd.Intn(2) == 0 {
					l = append(l, week)
				}
			}
			if n, right := costOf(s, l); right {
				expectCost(t, s, l, n, api.OK)
			} else {
				expectCost(t, s, l, 0, api.ErrState)
			}
		}
	}
}

// prove tells whether prices prove a cost: no order for some weeks costs less than their prices differ.
func prove(s reel.Supply, prices []int) bool {
	for i := range s.Need {
		for k := i + 1; k <= len(s.Need); k++ {
			part := first(s, k)
			part.Need = slices.Clone(part.Need)
			clear(part.Need[:i])
			l := []int{0, i}
			if i == 0 {
				l = l[:1]
			}
			cost, right := costOf(part, l)
			if i > 0 {
				cost -= part.Order[0]
			}
			if right && prices[k] > prices[i]+cost {
				return false
			}
		}
	}
	return true
}

// P6.4, P6.5: prices that prove a cost are not above those of Prices, and nothing costs less than they prove.
func TestAnyPrices(t *testing.T) {
	rnd := rand.New(rand.NewSource(640))
	proved := 0
	for range 3000 {
		s := anySupply(rnd)
		greatest, _ := reel.Prices(s)
		prices := slices.Clone(greatest)
		for range 1 + rnd.Intn(3) {
			prices[1+rnd.Intn(len(s.Need))] += rnd.Intn(5) - 3
		}
		last := prices[len(s.Need)]
		if !prove(s, prices) {
			expectProves(t, s, prices, 0, api.ErrFalse)
			continue
		}
		proved++
		expectProves(t, s, prices, last, api.OK)
		if _, cost, _ := reel.Schedule(s); cost < last {
			t.Error(s, prices, cost)
		}
		for i, n := range prices {
			if n > greatest[i] {
				t.Error(s, prices, greatest)
			}
		}
	}
	if proved < 500 {
		t.Error("not enough prices", proved)
	}
}

// P6.4: the longest supply.
func TestLongSupply(t *testing.T) {
	expectSchedule(t, weeks(20, 1000, 1000000, 999, 100000), 10*1999000, 0, 2, 4, 6, 8, 10, 12, 14, 16, 18)
	expectSchedule(t, weeks(20, 1000, 1000000, 1000, 100000), 10*2000000, 0, 1, 2, 3, 4, 5, 6, 7, 8, 9, 10, 11, 12, 13, 14, 15, 16, 17, 18)
	expectSchedule(t, weeks(20, 1000, 1000000, 0, 19000), 1000000, 0)
	expectSchedule(t, weeks(20, 1000, 1000000, 0, 18999), 2000000, 0, 1)
	expectProves(t, weeks(20, 0, 0, 0, 0), make([]int, 21), 0, api.OK)
}

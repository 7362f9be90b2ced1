package agent_test

import (
	"math"
	"math/rand"
	"reflect"
	"slices"
	"testing"

	"foldhouse/agent"
	"foldhouse/api"
)

// R4: no argument is changed, and no result shares memory with one.
func TestMemory(t *testing.T) {
	rnd := rand.New(rand.NewSource(51))
	h, late := anyHistory(rnd, 30, 20), make([]int, 30)
	methods := []agent.Method{method(3, 2), method(1, 1), method(4, 3)}
	l, needed, _ := anyOrders(rnd, 6, 20)
	readers := []agent.Subscriber{reader(), anySubscriber(rnd, 9, 40)}
	complaints := []agent.Complaint{{Subscriber: 1, Day: 3}}
	copyOf := func() []any {
		var holidays [][]api.Span
		for _, s := range readers {
			holidays = append(holidays, slices.Clone(s.Holidays))
		}
		return []any{slices.Clone(h), slices.Clone(late), slices.Clone(methods), slices.Clone(l), slices.Clone(complaints), holidays}
	}
	before := copyOf()
	agent.Total(h, 5, 1, 1)
	agent.Best(h, 1, 1)
	agent.Says(methods[0], h, 20)
	agent.Choose(methods, h, 1, 1)
	shares, _ := agent.Share(l, needed+9)
	again := slices.Clone(shares)
	agent.Fair(l, needed+9, shares)
	if !slices.Equal(shares, again) {
		t.Error(shares, again)
	}
	clear(shares)
	ids, _ := agent.Round(readers, 3)
	clear(ids)
	settlement, _ := agent.Settle(tariff(), h, late)
	clear(settlement.Lines)
	paid, _ := agent.Carrier(tariff(), readers, complaints, 0, 40)
	clear(paid.Lines)
	if after := copyOf(); !reflect.DeepEqual(before, after) {
		t.Error(before, after)
	}
	if a, _ := agent.Share(l, needed+9); !slices.Equal(a, again) {
		t.Error(a, again)
	}
}

// wild returns a number that is mostly near a limit.
func wild(rnd *rand.Rand) int {
	limits := []int{0, 0, 1, 2, 7, 20, 40, 60, 127, 400, 500, 1000, 10000, 20000, 1000000, math.MaxInt, math.MinInt, math.MaxInt / 4}
	return limits[rnd.Intn(len(limits))]*(1-2*rnd.Intn(2)) + rnd.Intn(3) - 1
}

// mostly returns a number that is allowed, and now and then one that need not be.
func mostly(rnd *rand.Rand, n int) int {
	if rnd.Intn(50) == 0 {
		return wild(rnd)
	}
	return n
}

// expectNothing checks that with an error there is no other result, and returns 1 if there is none.
func expectNothing(t *testing.T, e api.Errno, nothing bool) int {
	t.Helper()
	if e == api.OK {
		return 1
	}
	if !nothing {
		t.Error(e)
	}
	return 0
}

// R2, P8: no function of histories panics, and with an error there is no other result.
func TestWildHistories(t *testing.T) {
	rnd := rand.New(rand.NewSource(52))
	right := 0
	for range 5000 {
		h := anyHistory(rnd, rnd.Intn(20), 20)
		var late []int
		for i, d := range h {
			h[i] = day(mostly(rnd, d.Supply), mostly(rnd, d.Returned))
			late = append(late, mostly(rnd, 0))
		}
		var l []agent.Method
		for range rnd.Intn(4) {
			m := anyMethod(rnd, 5)
			l = append(l, method(mostly(rnd, m.Kind), mostly(rnd, m.Days)))
		}
		q, over, under := mostly(rnd, 9), mostly(rnd, 2), mostly(rnd, 3)
		n, e := agent.Total(h, q, over, under)
		right += expectNothing(t, e, n == 0)
		best, n, e := agent.Best(h, over, under)
		right += expectNothing(t, e, best == 0 && n == 0)
		i, s, e := agent.Choose(l, h, over, under)
		right += expectNothing(t, e, i == 0 && s == agent.Score{})
		for _, m := range l {
			n, is, e := agent.Says(m, h, mostly(rnd, len(h)))
			right += expectNothing(t, e, n == 0 && !is)
			s, e := agent.Rate(m, h, over, under)
			right += expectNothing(t, e, s == agent.Score{})
		}
		x := tariff()
		x.Price, x.Carry = mostly(rnd, 100), mostly(rnd, 4)
		a, e := agent.Settle(x, h, late)
		right += expectNothing(t, e, isNoAccount(a))
	}
	if right < 10000 {
		t.Error("not enough", right)
	}
}

// R2, P8: no function of orders and subscribers panics, and with an error there is no other result.
func TestWildOrders(t *testing.T) {
	rnd := rand.New(rand.NewSource(53))
	right := 0
	for range 5000 {
		l, needed, wanted := anyOrders(rnd, rnd.Intn(6), 20)
		for i, o := range l {
			l[i] = order(mostly(rnd, o.Agent), mostly(rnd, o.Copies), mostly(rnd, o.Least))
		}
		copies := mostly(rnd, needed+rnd.Intn(wanted-needed+2))
		shares, e := agent.Share(l, copies)
		right += expectNothing(t, e, shares == nil)
		for i := range shares {
			shares[i] = mostly(rnd, shares[i])
		}
		is, e := agent.Fair(l, copies, shares)
		right += expectNothing(t, e, !is)
		var readers []agent.Subscriber
		var complaints []agent.Complaint
		for i := range rnd.Intn(5) {
			s := anySubscriber(rnd, mostly(rnd, i), 30)
			s.From, s.To, s.Days = mostly(rnd, s.From), mostly(rnd, s.To), mostly(rnd, s.Days)
			for i, h := range s.Holidays {
				s.Holidays[i] = api.Span{Lo: mostly(rnd, h.Lo), Hi: mostly(rnd, h.Hi)}
			}
			readers = append(readers, s)
			complaints = append(complaints, agent.Complaint{Subscriber: s.Id, Day: mostly(rnd, s.From)})
			is, e := agent.Gets(s, mostly(rnd, 5))
			right += expectNothing(t, e, !is)
			n, e := agent.Copies(s, mostly(rnd, 5), mostly(rnd, 9))
			right += expectNothing(t, e, n == 0)
		}
		ids, e := agent.Round(readers, mostly(rnd, 7))
		right += expectNothing(t, e, ids == nil)
		a, e := agent.Carrier(tariff(), readers, complaints[:rnd.Intn(len(complaints)+1)], 0, mostly(rnd, 30))
		right += expectNothing(t, e, isNoAccount(a))
	}
	if right < 10000 {
		t.Error("not enough", right)
	}
}

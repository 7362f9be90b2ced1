package agent_test

import (
	"math"
	"math/rand"
	"reflect"
	"slices"
	"testing"

	"foldhouse/agent"
	"foldhouse/api"
)

func tariff() agent.Tariff {
	return agent.Tariff{Price: 90, Back: 50, Late: 20, Carry: 3, Credit: 10}
}

// tariffs are tariffs with whether they are allowed.
func tariffs() map[agent.Tariff]bool {
	l := map[agent.Tariff]bool{{}: true, tariff(): true, {Price: 5, Back: 5, Late: 5}: true}
	set := []func(t *agent.Tariff, n int){
		func(t *agent.Tariff, n int) { t.Price = n },
		func(t *agent.Tariff, n int) { t.Back = n },
		func(t *agent.Tariff, n int) { t.Late = n },
		func(t *agent.Tariff, n int) { t.Carry = n },
		func(t *agent.Tariff, n int) { t.Credit = n },
	}
	for _, to := range set {
		for n, right := range map[int]bool{0: true, 1: true, 10000: true, -1: false, 10001: false, math.MinInt: false, math.MaxInt: false} {
			x := agent.Tariff{Price: 10000}
			to(&x, n)
			l[x] = right
		}
	}
	for n, right := range map[int]bool{0: true, 89: true, 90: true, 91: false} {
		x, y := tariff(), tariff()
		x.Back, y.Late = n, n
		l[x], l[y] = right, right
	}
	return l
}

func expectAccount(t *testing.T, a agent.Account, e api.Errno, want []agent.Line, wantE api.Errno) {
	t.Helper()
	sum := 0
	for _, line := range want {
		sum += line.Amount
	}
	if !slices.Equal(a.Lines, want) || a.Sum != sum || e != wantE {
		t.Error(a, e, want, wantE)
	}
}

func expectSettle(t *testing.T, x agent.Tariff, h []agent.Day, late []int, want []agent.Line, wantE api.Errno) {
	t.Helper()
	a, e := agent.Settle(x, h, late)
	expectAccount(t, a, e, want, wantE)
}

func expectCarrier(t *testing.T, x agent.Tariff, l []agent.Subscriber, c []agent.Complaint, from, to int, want []agent.Line, wantE api.Errno) {
	t.Helper()
	a, e := agent.Carrier(x, l, c, from, to)
	expectAccount(t, a, e, want, wantE)
}

func settled(supplied, atPrice, inTime, back, late, atLate int) []agent.Line {
	return []agent.Line{{What: 1, Copies: supplied, Amount: atPrice}, {What: 2, Copies: inTime, Amount: back}, {What: 3, Copies: late, Amount: atLate}}
}

func carried(copies, amount, complaints, credit int) []agent.Line {
	return []agent.Line{{What: 4, Copies: copies, Amount: amount}, {What: 5, Copies: complaints, Amount: credit}}
}

// P11.5: the error of a tariff comes before all others.
func TestErrorOfTariff(t *testing.T) {
	for x, right := range tariffs() {
		if right {
			expectSettle(t, x, nil, nil, settled(0, 0, 0, 0, 0, 0), api.OK)
			expectCarrier(t, x, nil, nil, 0, 0, carried(0, 0, 0, 0), api.OK)
			continue
		}
		expectSettle(t, x, example(), []int{0, 0, 0}, nil, api.ErrArg)
		expectSettle(t, x, make([]agent.Day, 401), nil, nil, api.ErrArg)
		expectCarrier(t, x, []agent.Subscriber{reader()}, nil, 0, 9, nil, api.ErrArg)
		expectCarrier(t, x, make([]agent.Subscriber, 501), make([]agent.Complaint, 501), 2, 1, nil, api.ErrArg)
	}
}

// P11.5: settlements with agents.
func TestSettle(t *testing.T) {
	h := []agent.Day{day(10, 4), day(5, 0)}
	expectSettle(t, tariff(), h, []int{1, 0}, settled(15, 1350, 3, -150, 1, -20), api.OK)
	expectSettle(t, tariff(), h, []int{0, 0}, settled(15, 1350, 4, -200, 0, 0), api.OK)
	expectSettle(t, tariff(), h, []int{4, 0}, settled(15, 1350, 0, 0, 4, -80), api.OK)
	expectSettle(t, tariff(), nil, []int{}, settled(0, 0, 0, 0, 0, 0), api.OK)
	expectSettle(t, agent.Tariff{Carry: 5, Credit: 6}, h, []int{1, 0}, settled(15, 0, 3, 0, 1, 0), api.OK)
	large := slices.Repeat([]agent.Day{day(10000, 10000)}, 400)
	expectSettle(t, agent.Tariff{Price: 10000, Back: 10000, Late: 9999}, large, make([]int, 400), settled(4000000, 40000000000, 4000000, -40000000000, 0, 0), api.OK)
	for _, late := range [][]int{nil, {1}, {1, 0, 0}, {-1, 0}, {5, 0}, {0, 1}, {0, -1}, {math.MinInt, 0}, {math.MaxInt, 0}} {
		expectSettle(t, tariff(), h, late, nil, api.ErrAgent)
	}
	expectSettle(t, tariff(), nil, []int{0}, nil, api.ErrAgent)
	expectSettle(t, tariff(), make([]agent.Day, 401), nil, nil, api.ErrMany)
}

// P11.5, P11.6: what was supplied is what was sold and what was returned, and an account is the sum of its lines.
func TestSettlementsAddUp(t *testing.T) {
	rnd := rand.New(rand.NewSource(41))
	for range 500 {
		x := agent.Tariff{Price: 1 + rnd.Intn(100)}
		x.Back, x.Late = rnd.Intn(x.Price+1), rnd.Intn(x.Price+1)
		h := anyHistory(rnd, rnd.Intn(30), 40)
		var late []int
		sold, returned, tooLate := 0, 0, 0
		for _, d := range h {
			n := rnd.Intn(d.Returned + 1)
			late = append(late, n)
			sold, returned, tooLate = sold+d.Supply-d.Returned, returned+d.Returned, tooLate+n
		}
		inTime := returned - tooLate
		expectSettle(t, x, h, late, settled(sold+returned, (sold+returned)*x.Price, inTime, -inTime*x.Back, tooLate, -tooLate*x.Late), api.OK)
	}
}

// P11.5: accounts of carriers; example 4.
func TestCarrier(t *testing.T) {
	week := agent.Subscriber{Id: 2, From: 3, To: 30, Days: 1 + 4}
	l := []agent.Subscriber{reader(), week}
	complaints := []agent.Complaint{{Subscriber: 2, Day: 9}, {Subscriber: 1, Day: 4}, {Subscriber: 1, Day: 10}}
	expectCarrier(t, tariff(), l, nil, 0, 100, carried(24, 72, 0, 0), api.OK)
	expectCarrier(t, tariff(), l, complaints, 0, 100, carried(24, 72, 3, -30), api.OK)
	expectCarrier(t, tariff(), l, complaints, 4, 10, carried(4, 12, 3, -30), api.OK)
	expectCarrier(t, tariff(), l[:1], nil, 20, 20, carried(1, 3, 0, 0), api.OK)
	expectCarrier(t, agent.Tariff{Price: 5, Credit: 7}, l, complaints, 0, 100, carried(24, 0, 3, -21), api.OK)
	expectCarrier(t, tariff(), nil, nil, 0, 20000, carried(0, 0, 0, 0), api.OK)
	var all []agent.Subscriber
	var missed []agent.Complaint
	for i := range 500 {
		all = append(all, agent.Subscriber{Id: i, To: 20000, Days: 127})
		missed = append(missed, agent.Complaint{Subscriber: i, Day: 20000 - i})
	}
	largest := agent.Tariff{Carry: 10000, Credit: 10000}
	expectCarrier(t, largest, all, missed, 0, 20000, carried(10000500, 100005000000, 500, -5000000), api.OK)
	expectCarrier(t, largest, all, append(missed, agent.Complaint{}), 0, 20000, nil, api.ErrMany)
	expectCarrier(t, largest, append(all, agent.Subscriber{Id: 500, Days: 1}), nil, 0, 20000, nil, api.ErrMany)
}

// P11.5: the errors of carriers, in their order.
func TestErrorsOfCarrier(t *testing.T) {
	l := []agent.Subscriber{reader(), {Id: 2, From: 3, To: 30, Days: 1 + 4}}
	wrong, first := agent.Subscriber{Id: 1}, agent.Complaint{Subscriber: 1, Day: 4}
	many := make([]agent.Complaint, 501)
	expectCarrier(t, tariff(), make([]agent.Subscriber, 501), many, 2, 1, nil, api.ErrMany)
	expectCarrier(t, tariff(), []agent.Subscriber{reader(), wrong}, many, 2, 1, nil, api.ErrAgent)
	expectCarrier(t, tariff(), []agent.Subscriber{reader(), reader()}, many, 2, 1, nil, api.ErrTwice)
	for _, days := range [][2]int{{-1, 5}, {5, 20001}, {6, 5}, {20001, 20001}, {-2, -1}, {math.MinInt, math.MaxInt}} {
		expectCarrier(t, tariff(), l, nil, days[0], days[1], nil, api.ErrRange)
		expectCarrier(t, tariff(), l, many, days[0], days[1], nil, api.ErrRange)
	}
	expectCarrier(t, tariff(), l, many, 0, 100, nil, api.ErrMany)
	for _, c := range []agent.Complaint{
		{Subscriber: 1, Day: 5}, {Subscriber: 1, Day: 9}, {Subscriber: 1, Day: 21}, {Subscriber: 3, Day: 4}, {Subscriber: 2, Day: 8},
		{Subscriber: 2, Day: 0}, {Subscriber: 2, Day: 35}, {Subscriber: -1, Day: 4}, {}, {Subscriber: 1, Day: -1},
		{Subscriber: 1, Day: math.MinInt}, {Subscriber: 1, Day: math.MaxInt}, {Subscriber: math.MaxInt, Day: 4},
	} {
		expectCarrier(t, tariff(), l, []agent.Complaint{first, c}, 0, 100, nil, api.ErrNone)
		expectCarrier(t, tariff(), l, []agent.Complaint{first, c, first}, 0, 100, nil, api.ErrNone)
	}
	expectCarrier(t, tariff(), l, []agent.Complaint{first}, 5, 100, nil, api.ErrNone)
	expectCarrier(t, tariff(), l, []agent.Complaint{first}, 0, 3, nil, api.ErrNone)
	expectCarrier(t, tariff(), l, []agent.Complaint{first}, 4, 4, carried(1, 3, 1, -10), api.OK)
	expectCarrier(t, tariff(), nil, []agent.Complaint{{}}, 0, 100, nil, api.ErrNone)
	expectCarrier(t, tariff(), l, []agent.Complaint{first, first}, 0, 100, nil, api.ErrTwice)
	expectCarrier(t, tariff(), l, []agent.Complaint{first, {Subscriber: 2, Day: 9}, first, {}}, 0, 100, nil, api.ErrTwice)
	expectCarrier(t, tariff(), l, []agent.Complaint{{Subscriber: 1, Day: 14}, {Subscriber: 2, Day: 14}}, 0, 100, carried(24, 72, 2, -20), api.OK)
}

// P11.5, P11.6: a carrier is paid for the copies of its rounds, whatever complaints there are, and these change no other subscriber.
func TestCarriersAddUp(t *testing.T) {
	rnd := rand.New(rand.NewSource(42))
	complained := 0
	for range 300 {
		var l []agent.Subscriber
		for i := range 1 + rnd.Intn(6) {
			l = append(l, anySubscriber(rnd, i, 50))
		}
		from := rnd.Intn(30)
		to := from + rnd.Intn(40)
		var c []agent.Complaint
		copies := 0
		for d := from; d <= to; d++ {
			ids, _ := agent.Round(l, d)
			copies += len(ids)
			for _, id := range ids {
				if rnd.Intn(4) == 0 {
					c = append(c, agent.Complaint{Subscriber: id, Day: d})
				}
			}
		}
		rnd.Shuffle(len(c), reflect.Swapper(c))
		complained += len(c)
		expectCarrier(t, tariff(), l, c, from, to, carried(copies, 3*copies, len(c), -10*len(c)), api.OK)
	}
	if complained < 500 {
		t.Error("not enough", complained)
	}
}

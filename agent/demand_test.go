package agent_test

import (
	"math"
	"math/rand"
	"slices"
	"testing"

	"foldhouse/agent"
	"foldhouse/api"
)

// example is the history of the chapter's example 1.
func example() []agent.Day { return []agent.Day{day(10, 2), day(10, 0), day(12, 5)} }

func day(supply, returned int) agent.Day { return agent.Day{Supply: supply, Returned: returned} }

// anyHistory returns a history of so many days, with supplies of at most so many copies.
func anyHistory(rnd *rand.Rand, days, most int) []agent.Day {
	var h []agent.Day
	for range days {
		d := day(rnd.Intn(most+1), 0)
		if rnd.Intn(3) > 0 {
			d.Returned = rnd.Intn(d.Supply + 1)
		}
		h = append(h, d)
	}
	return h
}

// historyCase is a history with an error, or without one.
type historyCase struct {
	name string
	h    []agent.Day
	want api.Errno
}

func historyCases() []historyCase {
	l := []historyCase{
		{"nil", nil, api.OK},
		{"empty", []agent.Day{}, api.OK},
		{"example 1", example(), api.OK},
		{"400 days", make([]agent.Day, 400), api.OK},
		{"401 days", make([]agent.Day, 401), api.ErrMany},
		{"many before a day", slices.Repeat([]agent.Day{day(-1, 0)}, 401), api.ErrMany},
	}
	for _, d := range []agent.Day{day(0, 0), day(1, 0), day(1, 1), day(10000, 0), day(10000, 10000)} {
		l = append(l, historyCase{"a day", []agent.Day{day(5, 3), d, day(1, 1)}, api.OK})
	}
	for _, d := range []agent.Day{day(-1, 0), day(-1, -1), day(10001, 0), day(math.MinInt, 0), day(math.MaxInt, 0), day(5, -1), day(5, 6), day(0, 1), day(5, math.MinInt), day(5, math.MaxInt)} {
		l = append(l, historyCase{"no day", []agent.Day{day(5, 3), d, day(1, 1)}, api.ErrAgent}, historyCase{"no last day", []agent.Day{day(5, 3), d}, api.ErrAgent})
	}
	return l
}

// P11.1: the errors of a history.
func TestCheck(t *testing.T) {
	for _, c := range historyCases() {
		if e := agent.Check(c.h); e != c.want {
			t.Error(c.name, c.h, e)
		}
	}
}

// All functions of histories return the error of the history before those of other arguments, and nothing else; Settle has that of the tariff before it.
func TestErrorOfHistory(t *testing.T) {
	for _, c := range historyCases() {
		if c.want == api.OK {
			continue
		}
		n, e := agent.Total(c.h, -1, -1, 0)
		q, sum, e1 := agent.Best(c.h, -1, 0)
		says, ok, e2 := agent.Says(agent.Method{}, c.h, -1)
		s, e3 := agent.Rate(agent.Method{}, c.h, -1, 0)
		i, best, e4 := agent.Choose(make([]agent.Method, 41), c.h, -1, 0)
		a, e5 := agent.Settle(agent.Tariff{}, c.h, nil)
		for i, e := range []api.Errno{e, e1, e2, e3, e4, e5} {
			if e != c.want {
				t.Error(c.name, i, e)
			}
		}
		if n != 0 || q != 0 || sum != 0 || says != 0 || ok || s != (agent.Score{}) || i != 0 || best != (agent.Score{}) || !isNoAccount(a) {
			t.Error(c.name, n, q, sum, says, ok, s, i, best, a)
		}
	}
}

func isNoAccount(a agent.Account) bool { return len(a.Lines) == 0 && a.Sum == 0 }

// wordsOfLoss is the loss in the chapter's words.
func wordsOfLoss(d agent.Day, q, over, under int) int {
	sold := d.Supply - d.Returned
	if d.Returned == 0 {
		if q < sold {
			return under * (sold - q)
		}
		return 0
	}
	if q > sold {
		return over * (q - sold)
	}
	return under * (sold - q)
}

func expectLoss(t *testing.T, d agent.Day, q, over, under, want int, wantE api.Errno) {
	t.Helper()
	if n, e := agent.Loss(d, q, over, under); n != want || e != wantE {
		t.Error("Loss", d, q, over, under, n, e)
	}
}

func expectTotal(t *testing.T, h []agent.Day, q, over, under, want int, wantE api.Errno) {
	t.Helper()
	if n, e := agent.Total(h, q, over, under); n != want || e != wantE {
		t.Error("Total", h, q, over, under, n, e)
	}
}

func expectBest(t *testing.T, h []agent.Day, over, under, q, total int, wantE api.Errno) {
	t.Helper()
	if got, n, e := agent.Best(h, over, under); got != q || n != total || e != wantE {
		t.Error("Best", h, over, under, got, n, e)
	}
}

// P11.1: the loss of a supply.
func TestLoss(t *testing.T) {
	for _, c := range []struct {
		d    agent.Day
		q, n int
	}{
		{day(10, 2), 8, 0}, {day(10, 2), 9, 3}, {day(10, 2), 7, 7}, {day(10, 2), 0, 56}, {day(10, 2), 10000, 3 * 9992},
		{day(10, 0), 10, 0}, {day(10, 0), 11, 0}, {day(10, 0), 10000, 0}, {day(10, 0), 9, 7}, {day(10, 0), 0, 70},
		{day(10, 10), 0, 0}, {day(10, 10), 4, 12}, {day(0, 0), 0, 0}, {day(0, 0), 5, 0},
	} {
		expectLoss(t, c.d, c.q, 3, 7, c.n, api.OK)
	}
	expectLoss(t, day(10, 2), 20, 0, 7, 0, api.OK)
	expectLoss(t, day(10, 2), 1, 3, 0, 0, api.OK)
	expectLoss(t, day(10000, 10000), 10000, 1000, 1000, 10000000, api.OK)
	rnd := rand.New(rand.NewSource(1))
	for range 2000 {
		d, q, over, under := anyHistory(rnd, 1, 20)[0], rnd.Intn(25), rnd.Intn(9), 1+rnd.Intn(9)
		expectLoss(t, d, q, over, under, wordsOfLoss(d, q, over, under), api.OK)
	}
}

// P11.1: the errors of Loss, in their order.
func TestErrorsOfLoss(t *testing.T) {
	for _, d := range []agent.Day{day(-1, 0), day(10001, 0), day(3, -1), day(3, 4)} {
		expectLoss(t, d, 3, 1, 1, 0, api.ErrAgent)
		expectLoss(t, d, -1, -1, 0, 0, api.ErrAgent)
	}
	for _, q := range []int{-1, 10001, math.MinInt, math.MaxInt} {
		expectLoss(t, day(3, 1), q, 1, 1, 0, api.ErrRange)
		expectLoss(t, day(3, 1), q, -1, 0, 0, api.ErrRange)
		expectTotal(t, example(), q, 1, 1, 0, api.ErrRange)
		expectTotal(t, nil, q, 0, 0, 0, api.ErrRange)
	}
	for _, c := range wrongCosts {
		expectLoss(t, day(3, 1), 5, c[0], c[1], 0, api.ErrArg)
		expectTotal(t, example(), 5, c[0], c[1], 0, api.ErrArg)
		expectTotal(t, nil, 5, c[0], c[1], 0, api.ErrArg)
		expectBest(t, example(), c[0], c[1], 0, 0, api.ErrArg)
		expectBest(t, nil, c[0], c[1], 0, 0, api.ErrArg)
	}
	for _, c := range [][2]int{{0, 1}, {1, 0}, {1000, 0}, {0, 1000}, {1000, 1000}} {
		expectLoss(t, day(3, 1), 2, c[0], c[1], 0, api.OK)
	}
}

// wrongCosts are costs that are not allowed.
var wrongCosts = [][2]int{{0, 0}, {-1, 1}, {1, -1}, {1001, 1}, {1, 1001}, {math.MinInt, 1}, {1, math.MinInt}, {math.MaxInt, 0}, {0, math.MaxInt}}

// P11.1: the total is the sum of the losses; example 1.
func TestTotal(t *testing.T) {
	for _, c := range [][2]int{{7, 8}, {8, 5}, {9, 5}, {10, 5}, {11, 7}, {0, 50}} {
		expectTotal(t, example(), c[0], 1, 2, c[1], api.OK)
	}
	expectTotal(t, nil, 7, 1, 2, 0, api.OK)
	expectTotal(t, slices.Repeat([]agent.Day{day(10000, 10000)}, 400), 10000, 1000, 0, 4000000000, api.OK)
	rnd := rand.New(rand.NewSource(2))
	for range 300 {
		h, q := anyHistory(rnd, rnd.Intn(401), 30), rnd.Intn(40)
		sum := 0
		for _, d := range h {
			sum += wordsOfLoss(d, q, 4, 3)
		}
		expectTotal(t, h, q, 4, 3, sum, api.OK)
	}
}

// P11.1: the best supply of short histories; example 1.
func TestBest(t *testing.T) {
	expectBest(t, nil, 1, 1, 0, 0, api.ErrNone)
	expectBest(t, []agent.Day{}, 1, 1, 0, 0, api.ErrNone)
	expectBest(t, example(), 1, 2, 8, 5, api.OK)
	expectBest(t, example(), 0, 1, 10, 0, api.OK)
	expectBest(t, example(), 1, 0, 0, 0, api.OK)
	expectBest(t, []agent.Day{day(7, 0)}, 1000, 1, 7, 0, api.OK)
	expectBest(t, []agent.Day{day(10000, 0)}, 1, 1, 10000, 0, api.OK)
	expectBest(t, []agent.Day{day(0, 0)}, 1, 1, 0, 0, api.OK)
	expectBest(t, []agent.Day{day(9, 9)}, 1, 1, 0, 0, api.OK)
	expectBest(t, []agent.Day{day(5, 1), day(9, 1)}, 1, 1, 4, 4, api.OK)
	expectBest(t, []agent.Day{day(9, 1), day(5, 1)}, 1, 1, 4, 4, api.OK)
	expectBest(t, slices.Repeat([]agent.Day{day(10000, 0), day(10000, 10000)}, 200), 1000, 1000, 0, 2000000000, api.OK)
}

// P11.1, P11.6: no supply has a lesser total than Best, and no lesser supply the same one; one copy more or less costs no less.
func TestBestOfAll(t *testing.T) {
	rnd := rand.New(rand.NewSource(3))
	for range 1500 {
		h, over, under := anyHistory(rnd, 1+rnd.Intn(12), 1+rnd.Intn(25)), rnd.Intn(4), rnd.Intn(4)
		if over+under == 0 {
			continue
		}
		want, least := 0, math.MaxInt
		for q := range 40 {
			if n, _ := agent.Total(h, q, over, under); n < least {
				want, least = q, n
			}
		}
		expectBest(t, h, over, under, want, least, api.OK)
	}
	for range 5 {
		h, over, under := anyHistory(rnd, 1+rnd.Intn(20), 10000), rnd.Intn(1001), 1+rnd.Intn(1000)
		want, least := 0, math.MaxInt
		for q := range agent.MaxSupply + 1 {
			if n, _ := agent.Total(h, q, over, under); n < least {
				want, least = q, n
			}
		}
		expectBest(t, h, over, under, want, least, api.OK)
	}
}

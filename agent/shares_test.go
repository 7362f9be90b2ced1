package agent_test

import (
	"math"
	"math/big"
	"math/rand"
	"slices"
	"testing"

	"foldhouse/agent"
	"foldhouse/api"
)

func order(id, copies, least int) agent.Order {
	return agent.Order{Agent: id, Copies: copies, Least: least}
}

// orders are those of the chapter's example 3.
func orders() []agent.Order { return []agent.Order{order(1, 10, 1), order(2, 4, 1), order(3, 2, 1)} }

// anyOrders returns so many orders of at most so many copies, and how many copies they need and want together.
func anyOrders(rnd *rand.Rand, n, most int) (l []agent.Order, needed, wanted int) {
	for i := range n {
		o := order(3*n-i, rnd.Intn(most+1), 0)
		o.Least = rnd.Intn(1+rnd.Intn(o.Copies+1)) * rnd.Intn(2)
		needed, wanted = needed+o.Least, wanted+o.Copies
		l = append(l, o)
	}
	return l, needed, wanted
}

func expectShare(t *testing.T, l []agent.Order, copies int, want []int, wantE api.Errno) {
	t.Helper()
	if a, e := agent.Share(l, copies); !slices.Equal(a, want) || e != wantE {
		t.Error("Share", l, copies, a, e)
	}
}

func expectFair(t *testing.T, l []agent.Order, copies int, shares []int, want bool, wantE api.Errno) {
	t.Helper()
	if is, e := agent.Fair(l, copies, shares); is != want || e != wantE {
		t.Error("Fair", l, copies, shares, is, e)
	}
}

// orderCase has orders with an error, or without one.
type orderCase struct {
	name string
	l    []agent.Order
	want api.Errno
}

func orderCases() []orderCase {
	var forty []agent.Order
	for i := range 40 {
		forty = append(forty, order(i, 0, 0))
	}
	l := []orderCase{
		{"nil", nil, api.OK},
		{"empty", []agent.Order{}, api.OK},
		{"example 3", orders(), api.OK},
		{"40 orders", forty, api.OK},
		{"41 orders", append(slices.Clone(forty), order(40, 0, 0)), api.ErrMany},
		{"many before an order", make([]agent.Order, 41), api.ErrMany},
		{"an agent twice", []agent.Order{order(5, 1, 0), order(6, 1, 0), order(5, 1, 0)}, api.ErrTwice},
		{"an agent next to itself", []agent.Order{order(0, 1, 0), order(0, 2, 0)}, api.ErrTwice},
		{"twice before wrong", []agent.Order{order(5, 1, 0), order(5, 1, 0), order(6, -1, 0)}, api.ErrTwice},
		{"wrong before twice", []agent.Order{order(5, 1, 0), order(6, -1, 0), order(5, 1, 0)}, api.ErrAgent},
		{"wrong and twice", []agent.Order{order(5, 1, 0), order(5, 1, 2)}, api.ErrAgent},
		{"greatest numbers", []agent.Order{order(1000000, 10000, 10000), order(0, 0, 0)}, api.OK},
	}
	for _, o := range []agent.Order{
		order(-1, 2, 1), order(1000001, 2, 1), order(math.MinInt, 2, 1), order(math.MaxInt, 2, 1),
		order(7, -1, 0), order(7, -1, -1), order(7, 10001, 1), order(7, math.MinInt, 0), order(7, math.MaxInt, 1),
		order(7, 2, -1), order(7, 2, 3), order(7, 0, 1), order(7, 2, math.MinInt), order(7, 2, math.MaxInt),
	} {
		l = append(l, orderCase{"no order", []agent.Order{order(8, 1, 1), o}, api.ErrAgent})
	}
	return l
}

// P11.3: the errors of orders and copies, in their order.
func TestErrorsOfShares(t *testing.T) {
	for _, c := range orderCases() {
		a, e := agent.Share(c.l, 100000)
		is, e1 := agent.Fair(c.l, 100000, a)
		if e != c.want || e1 != c.want || e != api.OK && (a != nil || is) {
			t.Error(c.name, a, e, is, e1)
		}
		if c.want != api.OK {
			expectShare(t, c.l, -1, nil, c.want)
			expectFair(t, c.l, -1, nil, false, c.want)
		}
	}
	for _, copies := range []int{-1, math.MinInt} {
		expectShare(t, orders(), copies, nil, api.ErrRange)
		expectShare(t, nil, copies, nil, api.ErrRange)
		expectFair(t, orders(), copies, nil, false, api.ErrRange)
	}
	for copies := range 3 {
		expectShare(t, orders(), copies, nil, api.ErrNone)
		expectFair(t, orders(), copies, []int{1, 1, 1, 1}, false, api.ErrNone)
		expectFair(t, orders(), copies, []int{copies, 0, 0}, false, api.ErrNone)
	}
	for _, shares := range [][]int{nil, {}, {5, 3}, {5, 2, 1, 0}} {
		expectFair(t, orders(), 8, shares, false, api.ErrArg)
	}
	expectFair(t, nil, 8, []int{0}, false, api.ErrArg)
}

// P11.3: shares; example 3.
func TestShare(t *testing.T) {
	for copies, want := range map[int][]int{
		3: {1, 1, 1}, 4: {2, 1, 1}, 5: {3, 1, 1}, 6: {3, 2, 1}, 7: {4, 2, 1}, 8: {5, 2, 1}, 9: {6, 2, 1}, 10: {6, 3, 1},
		11: {6, 3, 2}, 12: {7, 3, 2}, 14: {8, 4, 2}, 15: {9, 4, 2}, 16: {10, 4, 2}, 17: {10, 4, 2}, math.MaxInt: {10, 4, 2},
	} {
		expectShare(t, orders(), copies, want, api.OK)
		expectFair(t, orders(), copies, want, true, api.OK)
	}
	expectShare(t, nil, 0, nil, api.OK)
	expectShare(t, nil, 5, nil, api.OK)
	expectShare(t, []agent.Order{order(0, 0, 0), order(1, 3, 0), order(2, 0, 0)}, 2, []int{0, 2, 0}, api.OK)
	expectShare(t, []agent.Order{order(4, 5, 0), order(2, 5, 0), order(3, 5, 0)}, 4, []int{2, 1, 1}, api.OK)
	expectShare(t, []agent.Order{order(4, 6, 0), order(2, 6, 5)}, 7, []int{2, 5}, api.OK)
	expectShare(t, []agent.Order{order(1, 10000, 0), order(2, 9999, 0)}, 1, []int{1, 0}, api.OK)
	expectShare(t, []agent.Order{order(1, 10000, 5000), order(2, 9999, 4999)}, 10000, []int{5000, 5000}, api.OK)
	var all []agent.Order
	for i := range 40 {
		all = append(all, order(i, 10000, 10000*(i%2)))
	}
	expectShare(t, all, 300000, slices.Repeat([]int{5000, 10000}, 20), api.OK)
	expectShare(t, all, 400001, slices.Repeat([]int{10000}, 40), api.OK)
}

// P11.3: which shares are fair; example 3.
func TestFair(t *testing.T) {
	for _, c := range []struct {
		copies int
		shares []int
		want   bool
	}{
		{8, []int{5, 2, 1}, true}, {8, []int{4, 3, 1}, false}, {8, []int{6, 1, 1}, false}, {8, []int{4, 2, 2}, false},
		{8, []int{5, 1, 1}, false}, {8, []int{5, 3, 1}, false}, {8, []int{6, 2, 0}, false}, {8, []int{7, 0, 1}, false},
		{16, []int{10, 4, 2}, true}, {20, []int{10, 4, 2}, true}, {20, []int{14, 4, 2}, false}, {16, []int{11, 3, 2}, false},
		{3, []int{1, 1, 1}, true}, {8, []int{-1, 4, 5}, false}, {6, []int{math.MaxInt, math.MinInt, 7}, false},
		{8, []int{math.MaxInt, 5, math.MinInt + 4}, false},
	} {
		expectFair(t, orders(), c.copies, c.shares, c.want, api.OK)
	}
	// Fair shares need not be those of Share.
	expectFair(t, []agent.Order{order(1, 5, 0), order(2, 5, 0)}, 3, []int{2, 1}, true, api.OK)
	expectFair(t, []agent.Order{order(1, 5, 0), order(2, 5, 0)}, 3, []int{1, 2}, true, api.OK)
	expectFair(t, []agent.Order{order(1, 5, 0), order(2, 5, 0)}, 3, []int{3, 0}, false, api.OK)
	// One that has just its Least gives nothing away, one that has its Copies gets nothing.
	expectFair(t, []agent.Order{order(1, 4, 4), order(2, 5, 0)}, 4, []int{4, 0}, true, api.OK)
	expectFair(t, []agent.Order{order(1, 100, 0), order(2, 1, 1)}, 99, []int{98, 1}, true, api.OK)
	expectFair(t, nil, 3, nil, true, api.OK)
	expectFair(t, []agent.Order{order(1, 0, 0)}, 3, []int{0}, true, api.OK)
}

func part(n, copies int) *big.Rat { return big.NewRat(int64(n), int64(copies)) }

// wordsOfShare shares copies as the chapter says.
func wordsOfShare(l []agent.Order, copies int) []int {
	var has []int
	for _, o := range l {
		has = append(has, o.Least)
		copies -= o.Least
	}
	for range copies {
		next := -1
		for i, o := range l {
			if has[i] < o.Copies && (next < 0 || part(has[i], o.Copies).Cmp(part(has[next], l[next].Copies)) < 0) {
				next = i
			}
		}
		if next >= 0 {
			has[next]++
		}
	}
	return has
}

// wordsOfFair says in the chapter's words whether shares are fair.
func wordsOfFair(l []agent.Order, copies int, shares []int) bool {
	sum, ordered := 0, 0
	for i, o := range l {
		sum, ordered = sum+shares[i], ordered+o.Copies
		if shares[i] < o.Least || shares[i] > o.Copies {
			return false
		}
	}
	for i, a := range l {
		for j, b := range l {
			if i != j && shares[i] > a.Least && shares[j] < b.Copies && part(shares[i]-1, a.Copies).Cmp(part(shares[j], b.Copies)) > 0 {
				return false
			}
		}
	}
	return sum == copies || copies > ordered && sum == ordered
}

// P11.3, P11.6: shares are those of the words, are fair, and are together the copies, or all that was ordered; with one copy more no agent gets less.
func TestShareAsTheWords(t *testing.T) {
	rnd := rand.New(rand.NewSource(21))
	for range 300 {
		l, needed, wanted := anyOrders(rnd, rnd.Intn(6), 1+rnd.Intn(12))
		before := make([]int, len(l))
		for copies := needed; copies < wanted+3; copies++ {
			expectShare(t, l, copies, wordsOfShare(l, copies), api.OK)
			shares, _ := agent.Share(l, copies)
			expectFair(t, l, copies, shares, true, api.OK)
			sum := 0
			for i, n := range shares {
				sum += n
				if n < before[i] {
					t.Fatal("less", l, copies, shares, before)
				}
			}
			if sum != min(copies, wanted) {
				t.Fatal("sum", l, copies, shares)
			}
			before = shares
		}
		if needed > 0 {
			expectShare(t, l, needed-1, nil, api.ErrNone)
		}
	}
}

// P11.3: of all shares of a few agents those are fair that are so by the words.
func TestFairAsTheWords(t *testing.T) {
	rnd := rand.New(rand.NewSource(22))
	fair, others := 0, 0
	for range 150 {
		l, needed, wanted := anyOrders(rnd, 1+rnd.Intn(3), 1+rnd.Intn(6))
		copies := needed + rnd.Intn(wanted-needed+2)
		shares := make([]int, len(l))
		var try func(i int)
		try = func(i int) {
			if i < len(l) {
				for shares[i] = -1; shares[i] <= l[i].Copies+1; shares[i]++ {
					try(i + 1)
				}
				return
			}
			want := wordsOfFair(l, copies, shares)
			expectFair(t, l, copies, shares, want, api.OK)
			if want {
				fair++
			} else {
				others++
			}
		}
		try(0)
	}
	if fair < 150 || others < 1000 {
		t.Error("not enough", fair, others)
	}
}

// P11.6: also many large shares are fair.
func TestLargeShares(t *testing.T) {
	rnd := rand.New(rand.NewSource(23))
	for range 20 {
		l, needed, wanted := anyOrders(rnd, 40, 10000)
		copies := needed + rnd.Intn(wanted-needed+1)
		shares, e := agent.Share(l, copies)
		if e != api.OK {
			t.Fatal(e)
		}
		expectFair(t, l, copies, shares, true, api.OK)
		more, _ := agent.Share(l, copies+1)
		for i := range more {
			if more[i] < shares[i] {
				t.Fatal("less", l, copies)
			}
		}
	}
}

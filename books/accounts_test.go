package books_test

import (
	"math"
	"math/rand"
	"slices"
	"testing"

	"foldhouse/api"
	"foldhouse/books"
)

// expectCheck checks what Check, New and Audit say of accounts.
func expectCheck(t *testing.T, l []books.Account, want api.Errno) {
	t.Helper()
	if e := books.Check(l); e != want {
		t.Error(l, e, want)
	}
	if b, e := books.New(3, l); e != want || (b == nil) != (want != api.OK) {
		t.Error(l, b, e, want)
	}
	if n, e := books.Audit(3, l, nil); n != 0 || e != want {
		t.Error(l, n, e, want)
	}
}

// P13.1: the goods of accounts.
func TestGoods(t *testing.T) {
	for good := -1; good <= 6; good++ {
		want := api.ErrBooks
		if 1 <= good && good <= 4 {
			want = api.OK
		}
		expectCheck(t, []books.Account{flow(good)}, want)
		expectCheck(t, []books.Account{flow(1), flow(good)}, want)
		expectCheck(t, []books.Account{flow(good), flow(4)}, want)
		expectCheck(t, []books.Account{flow(good), stock(good)}, want)
	}
	for _, good := range []int{math.MinInt, math.MaxInt, books.Copies - 1, books.Money + 1} {
		expectCheck(t, []books.Account{flow(good)}, api.ErrBooks)
	}
	if books.Copies != 1 || books.Paper != 2 || books.Ink != 3 || books.Money != 4 {
		t.Error("the goods")
	}
}

// P13.1: a stock has a flow of its good, before it or behind it.
func TestStocksHaveFlows(t *testing.T) {
	for _, c := range []struct {
		l    []books.Account
		want api.Errno
	}{
		{[]books.Account{stock(1)}, api.ErrBooks},
		{[]books.Account{flow(1), stock(2)}, api.ErrBooks},
		{[]books.Account{stock(2), flow(1)}, api.ErrBooks},
		{[]books.Account{stock(2), stock(2)}, api.ErrBooks},
		{[]books.Account{flow(1), stock(1), flow(2), stock(3), stock(2)}, api.ErrBooks},
		{[]books.Account{stock(1), flow(1)}, api.OK},
		{[]books.Account{flow(1), stock(1)}, api.OK},
		{[]books.Account{stock(4), stock(3), stock(2), stock(1), flow(1), flow(2), flow(3), flow(4)}, api.OK},
		{[]books.Account{flow(1), flow(2), flow(3), flow(4)}, api.OK},
	} {
		expectCheck(t, c.l, c.want)
	}
}

// P13.1: how many accounts there may be, which is said first.
func TestNumberOfAccounts(t *testing.T) {
	for n, want := range map[int]api.Errno{0: api.ErrMany, 1: api.OK, 2: api.OK, 39: api.OK, 40: api.OK, 41: api.ErrMany, 100: api.ErrMany} {
		expectCheck(t, slices.Repeat([]books.Account{flow(2)}, n), want)
		if n > 1 && want == api.OK {
			want = api.ErrBooks
		}
		if n > 1 {
			expectCheck(t, append(slices.Repeat([]books.Account{flow(2)}, n-1), stock(3)), want)
		}
	}
	if books.MaxAccounts != 40 {
		t.Error(books.MaxAccounts)
	}
}

// P13.1: accounts by the words of the chapter.
func TestAnyAccounts(t *testing.T) {
	rnd := rand.New(rand.NewSource(1))
	right := 0
	for range 5000 {
		var l []books.Account
		for range 1 + rnd.Intn(6) {
			l = append(l, books.Account{Good: 1 + rnd.Intn(3) + rnd.Intn(20)/19*3, Stock: rnd.Intn(2) == 0})
		}
		want := api.OK
		for _, a := range l {
			if a.Good > 4 || a.Stock && !slices.Contains(l, flow(a.Good)) {
				want = api.ErrBooks
			}
		}
		expectCheck(t, l, want)
		if want == api.OK {
			right++
		}
	}
	if right < 1000 || right > 4000 {
		t.Error("not enough", right)
	}
}

// P13.1: a new ledger has no entries, and no closed day.
func TestNew(t *testing.T) {
	for _, key := range []uint64{0, 1, 5, math.MaxUint64} {
		b := newLedger(t, key, []books.Account{flow(1), stock(1)})
		expectEntries(t, b)
		expectClosed(t, b, -1)
		expectBalance(t, b, 0, 0, 0, api.OK)
		expectStocks(t, b, books.MaxDay, 0, 0, 0, 0)
	}
}

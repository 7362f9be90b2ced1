package books_test

import (
	"math"
	"math/rand"
	"slices"
	"testing"

	"foldhouse/api"
	"foldhouse/books"
)

// copiesAndInk are two flows and a stock of copies, a flow and a stock of ink.
func copiesAndInk() []books.Account {
	return []books.Account{flow(books.Copies), stock(books.Copies), flow(books.Copies), flow(books.Ink), stock(books.Ink)}
}

// Example 1 of the chapter.
func TestExampleOfLedger(t *testing.T) {
	b := newLedger(t, 7, []books.Account{flow(books.Copies), stock(books.Copies)}, entry(0, 1, 100, 5))
	expectBalance(t, b, 1, 4, 0, api.OK)
	expectBalance(t, b, 1, 5, 100, api.OK)
	expectBalance(t, b, 0, 5, -100, api.OK)
	expectClose(t, b, 6, []int{97}, -3)
	expectEntries(t, b, entry(0, 1, 100, 5), entry(1, 0, 3, 6))
	expectPost(t, b, entry(0, 1, 1, 6), api.ErrTime)
	expectPost(t, b, entry(0, 1, 1, 7), api.OK)
}

// P13.1: each error of an entry alone.
func TestErrorsOfPost(t *testing.T) {
	for i, c := range []struct {
		x    books.Entry
		want api.Errno
	}{
		{entry(-1, 1, 5, 9), api.ErrArg},
		{entry(5, 1, 5, 9), api.ErrArg},
		{entry(0, -1, 5, 9), api.ErrArg},
		{entry(0, 5, 5, 9), api.ErrArg},
		{entry(1, 1, 5, 9), api.ErrArg},
		{entry(math.MinInt, 1, 5, 9), api.ErrArg},
		{entry(0, math.MaxInt, 5, 9), api.ErrArg},
		{entry(0, 3, 5, 9), api.ErrBooks},
		{entry(4, 1, 5, 9), api.ErrBooks},
		{entry(0, 1, 0, 9), api.ErrRange},
		{entry(0, 1, -1, 9), api.ErrRange},
		{entry(0, 1, 1000000000001, 9), api.ErrRange},
		{entry(0, 1, math.MinInt, 9), api.ErrRange},
		{entry(0, 1, math.MaxInt, 9), api.ErrRange},
		{entry(0, 1, 5, -1), api.ErrRange},
		{entry(0, 1, 5, 100001), api.ErrRange},
		{entry(0, 1, 5, math.MinInt), api.ErrRange},
		{entry(0, 1, 5, math.MaxInt), api.ErrRange},
		{entry(0, 1, 5, 0), api.ErrTime},
		{entry(0, 1, 5, 7), api.ErrTime},
		{entry(0, 1, 5, 8), api.ErrOrder},
		{entry(1, 0, 11, 9), api.ErrState},
		{entry(4, 3, 1, 9), api.ErrState},
		{entry(0, 1, 1, 9), api.OK},
		{entry(0, 1, 1000000000000, 100000), api.OK},
		{entry(0, 2, 5, 9), api.OK},
		{entry(2, 0, 5, 9), api.OK},
		{entry(2, 1, 5, 10), api.OK},
		{entry(1, 2, 10, 9), api.OK},
		{entry(1, 0, 10, 9), api.OK},
		{entry(3, 4, 10, 9), api.OK},
	} {
		b := newLedger(t, 7, copiesAndInk(), entry(0, 1, 6, 5))
		expectClose(t, b, 7, []int{6, 0}, 0, 0)
		expectPost(t, b, entry(0, 1, 4, 9), api.OK)
		want := []books.Entry{entry(0, 1, 6, 5), entry(0, 1, 4, 9)}
		if e := b.Post(c.x); e != c.want {
			t.Error(i, e, c.want)
		}
		if c.want == api.OK {
			want = append(want, c.x)
		}
		expectEntries(t, b, want...)
		expectClosed(t, b, 7)
	}
}

// full returns a ledger with as many entries as there may be but some, the last one on day 9.
func full(t *testing.T, but int) *books.Ledger {
	t.Helper()
	return newLedger(t, 7, copiesAndInk(), slices.Repeat([]books.Entry{entry(0, 1, 2, 9)}, 5000-but)...)
}

// P13.1, R1: the errors of Post in their order; each entry has all those that come later, too.
func TestOrderOfErrorsOfPost(t *testing.T) {
	b := full(t, 0)
	for _, x := range []books.Entry{{}, entry(9, 3, 0, -1), entry(1, 3, 0, -1), entry(0, 1, 1, 9), entry(1, 0, 20000, 8)} {
		expectPost(t, b, x, api.ErrMany)
	}
	b = newLedger(t, 7, copiesAndInk(), entry(0, 1, 6, 5))
	expectClose(t, b, 5, []int{7, 0}, 1, 0)
	for _, c := range []struct {
		x    books.Entry
		want api.Errno
	}{
		{entry(9, 3, 0, -1), api.ErrArg},
		{entry(3, -1, 0, -1), api.ErrArg},
		{entry(4, 4, 0, -1), api.ErrArg},
		{entry(1, 3, 0, -1), api.ErrBooks},
		{entry(1, 3, 100, 4), api.ErrBooks},
		{entry(1, 0, 0, 4), api.ErrRange},
		{entry(1, 0, 1000000000001, 4), api.ErrRange},
		{entry(1, 0, 100, -1), api.ErrRange},
		{entry(1, 0, 100, 4), api.ErrTime},
		{entry(1, 0, 100, 5), api.ErrTime},
		{entry(1, 0, 100, 6), api.ErrState},
	} {
		expectPost(t, b, c.x, c.want)
	}
	expectPost(t, b, entry(0, 1, 1, 8), api.OK)
	expectPost(t, b, entry(1, 0, 100, 7), api.ErrOrder)
	expectPost(t, b, entry(1, 0, 9, 8), api.ErrState)
	expectPost(t, b, entry(1, 0, 8, 8), api.OK)
}

// P13.1: the last entries that there may be.
func TestNumberOfEntries(t *testing.T) {
	b := full(t, 1)
	expectPost(t, b, entry(1, 0, 10000, 9), api.ErrState)
	expectPost(t, b, entry(1, 0, 9998, 9), api.OK)
	expectPost(t, b, entry(0, 1, 1, 9), api.ErrMany)
	expectBalance(t, b, 1, 9, 0, api.OK)
	if l := entriesOf(t, b); len(l) != 5000 || books.MaxEntries != 5000 {
		t.Error(len(l))
	}
}

// P13.1, P13.2: the greatest balances.
func TestGreatestBalances(t *testing.T) {
	b := newLedger(t, 7, copiesAndInk(), slices.Repeat([]books.Entry{entry(0, 1, books.MaxAmount, books.MaxDay)}, 5000)...)
	expectBalance(t, b, 1, books.MaxDay, 5000*1000000000000, api.OK)
	expectBalance(t, b, 0, books.MaxDay, -5000*1000000000000, api.OK)
	expectBalance(t, b, 1, books.MaxDay-1, 0, api.OK)
	expectStocks(t, b, books.MaxDay, 5000*1000000000000, 0, 0, 0)
	if n, e := books.Audit(7, copiesAndInk(), entriesOf(t, b)); n != 5000 || e != api.OK {
		t.Error(n, e)
	}
}

// P13.1: steps by the words of the chapter, and some that are known.
func TestStep(t *testing.T) {
	for _, c := range [][3]uint64{{0, 0, 0}, {5, 5, 0}, {0, 1, 0xA3D31BE4B3F6438C}, {math.MaxUint64, 0, 0x5C2CE41B6C09BC73}, {5, 1, 0x8F4C6F928FD90E32}, {123456789, 987654321, 0xFC1F59969E675602}} {
		if g, h := books.Step(c[0], c[1]), books.Step(c[1], c[0]); g != c[2] || h != c[2] {
			t.Errorf("%x %x %x", c, g, h)
		}
	}
	rnd := rand.New(rand.NewSource(2))
	for range 3000 {
		h, v := rnd.Uint64()>>rnd.Intn(64), rnd.Uint64()>>rnd.Intn(64)
		if got, want := books.Step(h, v), step(h, v); got != want {
			t.Fatalf("%x %x %x %x", h, v, got, want)
		}
	}
}

// P13.1: the signs of entries.
func TestSigns(t *testing.T) {
	b := newLedger(t, 9, copiesAndInk(), entry(0, 1, 6, 5), entry(1, 2, 4, 8))
	first := step(step(step(step(step(step(9, 1), 0), 1), 6), 5), 9)
	second := step(step(step(step(step(first, 1), 2), 4), 8), 9)
	if l := entriesOf(t, b); len(l) != 2 || l[0].Sign != first || l[1].Sign != second {
		t.Error(l, first, second)
	}
}

// P13.2: errors of Balance and of Stocks, and their order.
func TestErrorsOfBalance(t *testing.T) {
	b := newLedger(t, 7, copiesAndInk(), entry(0, 1, 6, 5))
	for _, day := range []int{math.MinInt, -1, 100001, math.MaxInt} {
		for _, account := range []int{math.MinInt, -1, 5, 40, math.MaxInt} {
			expectBalance(t, b, account, day, 0, api.ErrArg)
			expectBalance(t, b, account, 0, 0, api.ErrArg)
		}
		expectBalance(t, b, 1, day, 0, api.ErrRange)
		if l, e := b.Stocks(day); l != nil || e != api.ErrRange {
			t.Error(day, l, e)
		}
	}
	for _, day := range []int{5, 6, 99999, 100000} {
		expectBalance(t, b, 1, day, 6, api.OK)
		expectStocks(t, b, day, 6, 0, 0, 0)
	}
	for day := range 5 {
		expectBalance(t, b, 1, day, 0, api.OK)
		expectStocks(t, b, day, 0, 0, 0, 0)
	}
}

// P13.2: the stocks of each good are added.
func TestStocks(t *testing.T) {
	l := []books.Account{stock(4), flow(4), stock(2), flow(2), stock(2), flow(3), flow(4), stock(4)}
	b := newLedger(t, 7, l, entry(3, 2, 10, 1), entry(3, 4, 5, 1), entry(1, 7, 100, 2), entry(7, 0, 40, 2), entry(7, 6, 9, 3), entry(2, 4, 2, 3), entry(4, 3, 1, 4))
	expectStocks(t, b, 0, 0, 0, 0, 0)
	expectStocks(t, b, 1, 0, 15, 0, 0)
	expectStocks(t, b, 2, 0, 15, 0, 100)
	expectStocks(t, b, 3, 0, 15, 0, 91)
	expectStocks(t, b, 4, 0, 14, 0, 91)
}

// P13.2: a copy and its ledger go on without each other.
func TestCopy(t *testing.T) {
	b := newLedger(t, 7, copiesAndInk(), entry(0, 1, 6, 5), entry(0, 1, 7, 5), entry(3, 4, 1, 5))
	expectClose(t, b, 5, []int{13, 1}, 0, 0)
	c, e := b.Copy()
	if e != api.OK {
		t.Fatal(e)
	}
	expectPost(t, b, entry(1, 0, 13, 6), api.OK)
	expectPost(t, c, entry(1, 2, 12, 8), api.OK)
	expectPost(t, c, entry(0, 1, 1, 5), api.ErrTime)
	expectClose(t, c, 9, []int{2, 2}, 1, 1)
	expectClosed(t, b, 5)
	expectClosed(t, c, 9)
	before := []books.Entry{entry(0, 1, 6, 5), entry(0, 1, 7, 5), entry(3, 4, 1, 5)}
	expectEntries(t, b, append(slices.Clone(before), entry(1, 0, 13, 6))...)
	expectEntries(t, c, append(slices.Clone(before), entry(1, 2, 12, 8), entry(0, 1, 1, 9), entry(3, 4, 1, 9))...)
	expectPost(t, b, entry(1, 0, 1, 7), api.ErrState)
	for _, x := range []*books.Ledger{b, c} {
		l := entriesOf(t, x)
		if n, e := books.Audit(7, copiesAndInk(), l); n != len(l) || e != api.OK {
			t.Error(n, e)
		}
	}
}

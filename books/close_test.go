package books_test

import (
	"math"
	"math/rand"
	"slices"
	"testing"

	"foldhouse/api"
	"foldhouse/books"
)

// P13.2: less than the balance goes to the first flow of the good, more comes from there.
func TestClose(t *testing.T) {
	l := []books.Account{stock(2), flow(1), flow(2), stock(1), flow(2), stock(2), flow(1), stock(2)}
	b := newLedger(t, 3, l, entry(4, 0, 50, 1), entry(4, 5, 60, 1), entry(6, 3, 70, 2), entry(4, 7, 80, 2))
	expectClose(t, b, 2, []int{45, 77, 60, 0}, -5, 7, 0, -80)
	expectEntries(t, b, entry(4, 0, 50, 1), entry(4, 5, 60, 1), entry(6, 3, 70, 2), entry(4, 7, 80, 2),
		entry(0, 2, 5, 2), entry(1, 3, 7, 2), entry(7, 2, 80, 2))
	expectClosed(t, b, 2)
	expectStocks(t, b, 1, 0, 110, 0, 0)
	expectStocks(t, b, 2, 77, 105, 0, 0)
	expectBalance(t, b, 2, 2, 85, api.OK)
	expectBalance(t, b, 1, 2, -7, api.OK)
	expectClose(t, b, 3, []int{45, 77, 60, 0}, 0, 0, 0, 0)
	expectClose(t, b, 10, []int{45, 76, 61, 1}, 0, -1, 1, 1)
	if n, e := books.Audit(3, l, entriesOf(t, b)); n != 10 || e != api.OK {
		t.Error(n, e)
	}
}

// P13.2: the first and the last day, and a ledger without stocks.
func TestFirstAndLastDay(t *testing.T) {
	b := newLedger(t, 3, []books.Account{flow(1), flow(1)})
	expectClose(t, b, 0, nil)
	expectClosed(t, b, 0)
	expectPost(t, b, entry(0, 1, 5, 0), api.ErrTime)
	expectPost(t, b, entry(0, 1, 5, 1), api.OK)
	expectRefused(t, b, 0, nil, api.ErrTime)
	expectClose(t, b, 1, []int{})
	expectClose(t, b, 100000, nil)
	expectClosed(t, b, 100000)
	expectPost(t, b, entry(0, 1, 5, 100000), api.ErrTime)
	expectRefused(t, b, 100000, nil, api.ErrTime)
	expectRefused(t, b, 100001, nil, api.ErrRange)
	expectEntries(t, b, entry(0, 1, 5, 1))
}

// closing returns a ledger with a closed day 5, and an entry on day 8.
func closing(t *testing.T) *books.Ledger {
	t.Helper()
	b := newLedger(t, 3, copiesAndInk(), entry(0, 1, 6, 5))
	expectClose(t, b, 5, []int{6, 0}, 0, 0)
	expectPost(t, b, entry(0, 1, 4, 8), api.OK)
	return b
}

// P13.2: each error of Close alone; what is refused changes nothing.
func TestErrorsOfClose(t *testing.T) {
	for i, c := range []struct {
		day     int
		counted []int
		want    api.Errno
	}{
		{math.MinInt, []int{10, 0}, api.ErrRange},
		{-1, []int{10, 0}, api.ErrRange},
		{100001, []int{10, 0}, api.ErrRange},
		{math.MaxInt, []int{10, 0}, api.ErrRange},
		{0, []int{10, 0}, api.ErrTime},
		{5, []int{10, 0}, api.ErrTime},
		{6, []int{10, 0}, api.ErrOrder},
		{7, []int{10, 0}, api.ErrOrder},
		{8, nil, api.ErrArg},
		{8, []int{10}, api.ErrArg},
		{8, []int{10, 0, 0}, api.ErrArg},
		{8, []int{-1, 0}, api.ErrRange},
		{8, []int{9, -1}, api.ErrRange},
		{8, []int{9, math.MinInt}, api.ErrRange},
		{8, []int{9, 1000000000001}, api.ErrRange},
		{8, []int{1000000000011, 0}, api.ErrRange},
		{8, []int{9, math.MaxInt}, api.ErrRange},
	} {
		b := closing(t)
		if l, e := b.Close(c.day, c.counted); l != nil || e != c.want {
			t.Error(i, l, e, c.want)
		}
		expectEntries(t, b, entry(0, 1, 6, 5), entry(0, 1, 4, 8))
		expectClosed(t, b, 5)
		expectPost(t, b, entry(1, 0, 11, 8), api.ErrState)
		expectPost(t, b, entry(1, 0, 10, 8), api.OK)
	}
}

// P13.2, R1: the errors of Close in their order; each call has all those that come later, too.
func TestOrderOfErrorsOfClose(t *testing.T) {
	b := closing(t)
	expectRefused(t, b, -1, []int{-1}, api.ErrRange)
	expectRefused(t, b, 5, []int{-1}, api.ErrTime)
	expectRefused(t, b, 7, []int{-1}, api.ErrOrder)
	expectRefused(t, b, 8, []int{-1}, api.ErrArg)
	b = full(t, 0)
	expectRefused(t, b, 8, []int{0}, api.ErrOrder)
	expectRefused(t, b, 9, []int{0}, api.ErrArg)
	expectRefused(t, b, 9, []int{0, -1}, api.ErrRange)
	expectRefused(t, b, 9, []int{0, 0}, api.ErrMany)
}

// P13.2: the greatest differences.
func TestGreatestDifferences(t *testing.T) {
	b := newLedger(t, 3, copiesAndInk())
	expectClose(t, b, 1, []int{1000000000000, 1000000000000}, 1000000000000, 1000000000000)
	expectRefused(t, b, 2, []int{2000000000001, 5}, api.ErrRange)
	expectClose(t, b, 2, []int{2000000000000, 0}, 1000000000000, -1000000000000)
	expectRefused(t, b, 3, []int{999999999999, 0}, api.ErrRange)
	expectClose(t, b, 3, []int{1000000000000, 0}, -1000000000000, 0)
	expectClose(t, b, 4, []int{0, 0}, -1000000000000, 0)
	expectEntries(t, b, entry(0, 1, books.MaxAmount, 1), entry(3, 4, books.MaxAmount, 1),
		entry(0, 1, books.MaxAmount, 2), entry(4, 3, books.MaxAmount, 2), entry(1, 0, books.MaxAmount, 3), entry(1, 0, books.MaxAmount, 4))
}

// P13.2: a day is not closed if there would be too many entries, and those that were put in are taken back.
func TestTooManyEntries(t *testing.T) {
	b := full(t, 1)
	before := entriesOf(t, b)
	expectRefused(t, b, 9, []int{0, 7}, api.ErrMany)
	if l := entriesOf(t, b); !slices.Equal(l, before) {
		t.Fatal(len(l))
	}
	expectClosed(t, b, -1)
	expectBalance(t, b, 1, 9, 9998, api.OK)
	c, _ := b.Copy()
	expectPost(t, c, entry(1, 0, 9998, 9), api.OK)
	expectClose(t, c, 9, []int{0, 0}, 0, 0)
	expectClose(t, b, 9, []int{9998, 7}, 0, 7)
	if l := entriesOf(t, b); len(l) != 5000 || l[4999].Entry != entry(3, 4, 7, 9) {
		t.Error(len(l))
	}
	expectClosed(t, b, 9)
	expectRefused(t, b, 10, []int{9997, 7}, api.ErrMany)
	expectClosed(t, b, 9)
	expectClose(t, b, 10, []int{9998, 7}, 0, 0)
	expectClosed(t, b, 10)
	if n, e := books.Audit(7, copiesAndInk(), entriesOf(t, b)); n != 5000 || e != api.OK {
		t.Error(n, e)
	}
}

// anyEntry returns an entry that is mostly allowed.
func anyEntry(rnd *rand.Rand, m *model, day int) books.Entry {
	from := rnd.Intn(len(m.accounts)+1) - rnd.Intn(20)/19
	to := rnd.Intn(len(m.accounts)+1) - rnd.Intn(20)/19
	for range 3 {
		if !m.hasNo(from) && (m.hasNo(to) || m.accounts[from].Good != m.accounts[to].Good) {
			to = rnd.Intn(len(m.accounts))
		}
	}
	amount := rnd.Intn(30)
	if rnd.Intn(20) == 0 {
		amount = anyOf(rnd, []int{-1, 0, 999999999999, 1000000000000, 1000000000001})
	}
	return entry(from, to, amount, day-rnd.Intn(8)/7)
}

// anyCounted returns what may be counted of stocks on a day.
func anyCounted(rnd *rand.Rand, m *model, day int) []int {
	var counted []int
	for _, stock := range m.stocks() {
		n := m.balance(stock, day)
		if rnd.Intn(2) == 0 {
			n += rnd.Intn(9) - 4
		}
		if rnd.Intn(30) == 0 {
			n += anyOf(rnd, []int{-1000000000001, -1000000000000, 1000000000000, 1000000000001})
		}
		counted = append(counted, n)
	}
	if rnd.Intn(20) == 0 {
		counted = append(counted, 5)
	}
	return counted
}

// play posts or closes in a ledger and in its model, checks that they agree, and returns the error.
func play(t *testing.T, rnd *rand.Rand, b *books.Ledger, m *model, day int) api.Errno {
	t.Helper()
	if rnd.Intn(5) > 0 {
		x := anyEntry(rnd, m, day)
		want := m.post(x)
		expectPost(t, b, x, want)
		return want
	}
	day -= rnd.Intn(4) / 3
	counted := anyCounted(rnd, m, day)
	l, e := b.Close(day, counted)
	want, wantE := m.close(day, counted)
	if e != wantE || !slices.Equal(l, want) {
		t.Fatal(day, counted, l, e, want, wantE)
	}
	return e
}

// P13.1, P13.2, R2: a ledger is the one of the chapter's words, whatever is asked for.
func TestAnyLedger(t *testing.T) {
	rnd := rand.New(rand.NewSource(3))
	met := map[api.Errno]int{}
	for range 600 {
		m := &model{key: rnd.Uint64(), accounts: anyAccounts(rnd), closed: -1}
		b := newLedger(t, m.key, m.accounts)
		day := rnd.Intn(3)
		for range 60 {
			met[play(t, rnd, b, m, day)]++
			m.expect(t, b)
			day += rnd.Intn(5) / 3
			if rnd.Intn(20) == 0 {
				b = copyOf(t, b)
			}
		}
		for day := range day + 2 {
			m.expectOn(t, b, day)
		}
	}
	for _, e := range []api.Errno{api.OK, api.ErrArg, api.ErrBooks, api.ErrRange, api.ErrTime, api.ErrOrder, api.ErrState} {
		if met[e] < 300 {
			t.Error("not enough", e, met)
		}
	}
}

// copyOf returns a copy of a ledger, whose original is spoiled.
func copyOf(t *testing.T, b *books.Ledger) *books.Ledger {
	t.Helper()
	c, e := b.Copy()
	if e != api.OK {
		t.Fatal(e)
	}
	for account := range 12 {
		b.Post(entry(account, account+1, 1, books.MaxDay))
		b.Post(entry(account+1, account, 1, books.MaxDay))
	}
	b.Close(books.MaxDay, nil)
	return c
}

// report says all that a ledger says of the days up to one.
func report(t *testing.T, b *books.Ledger, l []books.Account, day int) []int {
	t.Helper()
	var all []int
	for d := range day + 1 {
		for i := range l {
			n, e := b.Balance(i, d)
			if e != api.OK {
				t.Fatal(i, d, e)
			}
			all = append(all, n)
		}
	}
	return all
}

// P13.5: nothing comes out of nothing, no stock is below 0, closed days never change, and stocks have what was counted.
func TestWhatFollows(t *testing.T) {
	rnd := rand.New(rand.NewSource(4))
	closed := 0
	for range 300 {
		m := &model{key: rnd.Uint64(), accounts: anyAccounts(rnd), closed: -1}
		b := newLedger(t, m.key, m.accounts)
		var reports [][]int
		var days []int
		for day := range 12 {
			for range rnd.Intn(4) {
				b.Post(anyEntry(rnd, m, day))
			}
			counted := make([]int, len(m.stocks()))
			for i := range counted {
				counted[i] = rnd.Intn(40)
			}
			if rnd.Intn(3) > 0 {
				continue
			}
			if _, e := b.Close(day, counted); e != api.OK {
				continue
			}
			for i, stock := range m.stocks() {
				expectBalance(t, b, stock, day, counted[i], api.OK)
			}
			closed++
			days = append(days, day)
			reports = append(reports, report(t, b, m.accounts, day))
		}
		for i, day := range days {
			if !slices.Equal(report(t, b, m.accounts, day), reports[i]) {
				t.Fatal("a closed day has changed", day)
			}
		}
		expectNothingOutOfNothing(t, b, m.accounts, 13)
	}
	if closed < 600 {
		t.Error("not enough", closed)
	}
}

func expectNothingOutOfNothing(t *testing.T, b *books.Ledger, l []books.Account, days int) {
	t.Helper()
	for day := range days {
		sums := make([]int, 5)
		for i, a := range l {
			n, _ := b.Balance(i, day)
			sums[a.Good] += n
			if a.Stock && n < 0 {
				t.Fatal(i, day, n)
			}
		}
		if !slices.Equal(sums, make([]int, 5)) {
			t.Fatal(day, sums)
		}
	}
}

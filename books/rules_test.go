package books_test

import (
	"math"
	"math/rand"
	"slices"
	"testing"

	"foldhouse/api"
	"foldhouse/books"
)

// R5: a ledger that no function returned does nothing.
func TestNoLedger(t *testing.T) {
	other := *newLedger(t, 7, copiesAndInk(), entry(0, 1, 6, 5))
	for i, b := range []*books.Ledger{nil, {}, new(books.Ledger), &other} {
		var all []api.Errno
		for _, x := range []books.Entry{{}, entry(0, 1, 1, 5), entry(-1, -1, -1, -1)} {
			all = append(all, b.Post(x))
		}
		for _, day := range []int{-1, 0, 5, math.MaxInt} {
			balance, e1 := b.Balance(day, day)
			stocks, e2 := b.Stocks(day)
			differences, e3 := b.Close(day, []int{0, 0})
			if all = append(all, e1, e2, e3); balance != 0 || stocks != nil || differences != nil {
				t.Error(i, balance, stocks, differences)
			}
		}
		closed, e1 := b.Closed()
		entries, e2 := b.Entries()
		c, e3 := b.Copy()
		if all = append(all, e1, e2, e3); closed != 0 || entries != nil || c != nil {
			t.Error(i, closed, entries, c)
		}
		if slices.ContainsFunc(all, func(e api.Errno) bool { return e != api.ErrNil }) {
			t.Error(i, all)
		}
	}
}

// R5: ledgers that New and Copy returned are ledgers.
func TestLedgers(t *testing.T) {
	b := newLedger(t, 7, copiesAndInk())
	c, _ := b.Copy()
	d, _ := c.Copy()
	for _, b := range []*books.Ledger{b, c, d} {
		expectPost(t, b, entry(0, 1, 6, 5), api.OK)
		expectEntries(t, b, entry(0, 1, 6, 5))
	}
}

// R3: nil and empty lists are the same.
func TestEmpty(t *testing.T) {
	for _, l := range [][]int{nil, {}} {
		expectGroups(t, l)
		expectClear(t, l)
		expectNoShare(t, 5, l, api.ErrMany)
		expectClose(t, newLedger(t, 7, []books.Account{flow(1)}), 4, l)
	}
	expectCheck(t, []books.Account{}, api.ErrMany)
	expectAudit(t, 7, copiesAndInk(), []books.Signed{}, 0, api.OK)
}

// R4: a ledger shares no memory with its accounts, or with its results.
func TestMemoryOfLedger(t *testing.T) {
	l := copiesAndInk()
	b := newLedger(t, 7, l, entry(0, 1, 6, 5), entry(0, 1, 7, 5), entry(3, 4, 1, 5))
	clear(l)
	for range 2 {
		entries := entriesOf(t, b)
		clear(entries[:cap(entries)])
		stocks, _ := b.Stocks(5)
		clear(stocks[:cap(stocks)])
	}
	counted := []int{12, 2}
	differences, e := b.Close(6, counted)
	if e != api.OK || !slices.Equal(counted, []int{12, 2}) {
		t.Fatal(e, counted)
	}
	clear(differences)
	if counted[0] = 99; !slices.Equal(counted, []int{99, 2}) {
		t.Error(counted)
	}
	expectPost(t, b, entry(0, 3, 6, 7), api.ErrBooks)
	expectPost(t, b, entry(1, 0, 13, 7), api.ErrState)
	expectStocks(t, b, 6, 12, 0, 2, 0)
	expectEntries(t, b, entry(0, 1, 6, 5), entry(0, 1, 7, 5), entry(3, 4, 1, 5), entry(1, 0, 1, 6), entry(3, 4, 1, 6))
}

// R4: no argument is changed, and results are new memory.
func TestMemory(t *testing.T) {
	rnd := rand.New(rand.NewSource(10))
	for range 300 {
		l := anyBalances(rnd, 1+rnd.Intn(9), 6)
		before := slices.Clone(l)
		groups, _ := books.Groups(l)
		pays, _ := books.Clear(l)
		sameGroups, samePays := slices.Clone(groups), slices.Clone(pays)
		clear(groups[:cap(groups)])
		clear(pays[:cap(pays)])
		if !slices.Equal(l, before) {
			t.Fatal(l, before)
		}
		expectGroups(t, l, sameGroups...)
		expectClear(t, l, samePays...)
	}
	weights := []int{3, 1, 5}
	shares, _ := books.Share(10, weights)
	clear(shares)
	expectShare(t, 10, weights, 3, 1, 6)
	if !slices.Equal(weights, []int{3, 1, 5}) {
		t.Error(weights)
	}
	accounts, entries := copiesAndInk(), signed(7, entry(0, 1, 6, 5), entry(1, 0, 2, 6))
	sameEntries := slices.Clone(entries)
	books.Check(accounts)
	books.Audit(7, accounts, entries)
	books.Audit(8, accounts, entries)
	if !slices.Equal(accounts, copiesAndInk()) || !slices.Equal(entries, sameEntries) {
		t.Error(accounts, entries)
	}
}

// wild returns a number that is mostly near a limit.
func wild(rnd *rand.Rand) int {
	limits := []int{0, 0, 1, 2, 4, 10, 40, 100, 5000, 100000, 1000000, 1000000000, 1000000000000, math.MaxInt, math.MinInt, math.MaxInt / 4}
	return limits[rnd.Intn(len(limits))]*(1-2*rnd.Intn(2)) + rnd.Intn(3) - 1
}

// mostly returns a number that is allowed, and now and then one that need not be.
func mostly(rnd *rand.Rand, n int) int {
	if rnd.Intn(20) == 0 {
		return wild(rnd)
	}
	return n
}

func mostlyAll(rnd *rand.Rand, l []int) []int {
	for i := range l {
		l[i] = mostly(rnd, l[i])
	}
	return l
}

// expectNothing checks that with an error there is no other result, and returns 1 if there is none.
func expectNothing(t *testing.T, e api.Errno, nothing bool) int {
	t.Helper()
	if e == api.OK {
		return 1
	}
	if !nothing {
		t.Error(e)
	}
	return 0
}

// R2, P8: no method of a ledger panics, and with an error nothing has changed.
func TestWildLedgers(t *testing.T) {
	rnd := rand.New(rand.NewSource(11))
	right := 0
	for range 500 {
		m := &model{key: rnd.Uint64(), accounts: anyAccounts(rnd), closed: -1}
		b := newLedger(t, m.key, m.accounts)
		for day := range 20 {
			x := anyEntry(rnd, m, day)
			x = entry(mostly(rnd, x.From), mostly(rnd, x.To), mostly(rnd, x.Amount), mostly(rnd, x.Day))
			expectPost(t, b, x, m.post(x))
			closing, counted := mostly(rnd, day), mostlyAll(rnd, anyCounted(rnd, m, day))
			if rnd.Intn(5) == 0 {
				want, wantE := m.close(closing, counted)
				l, e := b.Close(closing, counted)
				if e != wantE || !slices.Equal(l, want) {
					t.Fatal(l, e, want, wantE)
				}
				right += expectNothing(t, e, l == nil)
			}
			m.expect(t, b)
			n, e := b.Balance(mostly(rnd, 0), mostly(rnd, day))
			right += expectNothing(t, e, n == 0)
			stocks, e := b.Stocks(mostly(rnd, day))
			right += expectNothing(t, e, stocks == nil)
		}
	}
	if right < 10000 {
		t.Error("not enough", right)
	}
}

// R2, P8: no function panics, and with an error there is no other result.
func TestWildFunctions(t *testing.T) {
	rnd := rand.New(rand.NewSource(12))
	right := 0
	for range 5000 {
		l := anyAccounts(rnd)
		for i := range l {
			l[i].Good = mostly(rnd, l[i].Good)
		}
		b, e := books.New(rnd.Uint64(), l)
		right += expectNothing(t, e, b == nil)
		entries := signed(7, entry(0, 1, 6, 5), entry(1, 0, 2, 6))
		for i, x := range entries {
			entries[i].Entry = entry(mostly(rnd, x.Entry.From), mostly(rnd, x.Entry.To), mostly(rnd, x.Entry.Amount), mostly(rnd, x.Entry.Day))
		}
		if e == api.OK {
			want, wantE := audited(7, l, entries)
			expectAudit(t, 7, l, entries, want, wantE)
		}
		shares, e := books.Share(mostly(rnd, 50), mostlyAll(rnd, []int{5, 6, 7}))
		right += expectNothing(t, e, shares == nil)
		parties := mostlyAll(rnd, anyBalances(rnd, 1+rnd.Intn(11), 6))
		groups, e := books.Groups(parties)
		right += expectNothing(t, e, groups == nil)
		pays, e := books.Clear(parties)
		right += expectNothing(t, e, pays == nil)
	}
	if right < 10000 {
		t.Error("not enough", right)
	}
}

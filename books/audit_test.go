package books_test

import (
	"math"
	"math/rand"
	"slices"
	"testing"

	"foldhouse/api"
	"foldhouse/books"
)

func expectAudit(t *testing.T, key uint64, l []books.Account, entries []books.Signed, want int, code api.Errno) {
	t.Helper()
	if n, e := books.Audit(key, l, entries); n != want || e != code {
		t.Error(key, l, entries, n, e, want, code)
	}
}

// signed gives entries the signs that they would have in a ledger, whether it takes them or not.
func signed(key uint64, l ...books.Entry) []books.Signed {
	m := &model{key: key}
	for _, x := range l {
		m.entries = append(m.entries, books.Signed{Entry: x, Sign: m.sign(x)})
	}
	return m.entries
}

// P13.3: the error of Post comes with the index of the first wrong entry.
func TestErrorsOfAudit(t *testing.T) {
	first, second := entry(0, 1, 6, 5), entry(3, 4, 9, 7)
	for _, c := range []struct {
		x    books.Entry
		want api.Errno
	}{
		{entry(-1, 1, 5, 9), api.ErrArg},
		{entry(0, 5, 5, 9), api.ErrArg},
		{entry(2, 2, 5, 9), api.ErrArg},
		{entry(0, 3, 5, 9), api.ErrBooks},
		{entry(0, 1, 0, 9), api.ErrRange},
		{entry(0, 1, 1000000000001, 9), api.ErrRange},
		{entry(0, 1, 1, 100001), api.ErrRange},
		{entry(0, 1, 1, math.MaxInt), api.ErrRange},
		{entry(0, 1, 1, -1), api.ErrRange},
		{entry(0, 1, 1, 6), api.ErrOrder},
		{entry(1, 2, 7, 7), api.ErrState},
		{entry(4, 3, 10, 100), api.ErrState},
	} {
		l := signed(7, first, second, c.x, entry(0, 1, 1, 8), entry(9, 9, 9, 9))
		expectAudit(t, 7, copiesAndInk(), l, 2, c.want)
		l[2].Sign++
		expectAudit(t, 7, copiesAndInk(), l, 2, c.want)
		l[1].Sign++
		expectAudit(t, 7, copiesAndInk(), l, 1, api.ErrFalse)
		l[0].Entry = c.x
		if c.want != api.ErrOrder {
			expectAudit(t, 7, copiesAndInk(), l, 0, c.want)
		}
	}
	l := signed(7, first, second, entry(1, 2, 6, 7), entry(4, 3, 9, 100000))
	expectAudit(t, 7, copiesAndInk(), l, 4, api.OK)
	expectAudit(t, 6, copiesAndInk(), l, 0, api.ErrFalse)
	expectAudit(t, 7, copiesAndInk(), nil, 0, api.OK)
}

// P13.3: the errors of Check, and too many entries.
func TestTooManyToAudit(t *testing.T) {
	l := signed(7, slices.Repeat([]books.Entry{entry(0, 1, 2, 9)}, 5001)...)
	expectAudit(t, 7, copiesAndInk(), l[:5000], 5000, api.OK)
	expectAudit(t, 7, copiesAndInk(), l, 0, api.ErrMany)
	l[0].Entry.From = -1
	expectAudit(t, 7, copiesAndInk(), l, 0, api.ErrMany)
	expectAudit(t, 7, []books.Account{flow(1), stock(2)}, l, 0, api.ErrBooks)
	expectAudit(t, 7, nil, l, 0, api.ErrMany)
	expectAudit(t, 7, nil, l[:1], 0, api.ErrMany)
	expectAudit(t, 7, []books.Account{flow(5)}, l[:1], 0, api.ErrBooks)
	expectAudit(t, 7, copiesAndInk(), l[:1], 0, api.ErrArg)
}

// audited is what the chapter says of an audit.
func audited(key uint64, l []books.Account, entries []books.Signed) (int, api.Errno) {
	m := &model{key: key, accounts: l, closed: -1}
	for i, s := range entries {
		if e := m.post(s.Entry); e != api.OK {
			return i, e
		}
		if m.entries[i].Sign != s.Sign {
			return i, api.ErrFalse
		}
	}
	return len(entries), api.OK
}

// spoil changes an entry, leaves one out, puts one in twice, or exchanges two; it returns the index of the first that is not as before.
func spoil(rnd *rand.Rand, l []books.Signed) ([]books.Signed, int) {
	i := rnd.Intn(len(l))
	x := &l[i]
	switch rnd.Intn(8) {
	case 0:
		x.Entry.From += 1 - 2*rnd.Intn(2)
	case 1:
		x.Entry.To += 1 - 2*rnd.Intn(2)
	case 2:
		x.Entry.Amount += 1 - 2*rnd.Intn(2)
	case 3:
		x.Entry.Day += 1 - 2*rnd.Intn(2)
	case 4:
		x.Sign ^= 1 << rnd.Intn(64)
	case 5:
		return slices.Delete(l, i, i+1), i
	case 6:
		return slices.Insert(l, i, *x), i + 1
	case 7:
		k := rnd.Intn(len(l))
		l[i], l[k] = l[k], l[i]
		i = min(i, k)
	}
	return l, i
}

// P13.3, P13.5: an audit takes what a ledger has, and finds the first entry that was changed, or follows one that was left out.
func TestAnyAudit(t *testing.T) {
	rnd := rand.New(rand.NewSource(5))
	met := map[api.Errno]int{}
	for range 1500 {
		m := &model{key: rnd.Uint64(), accounts: anyAccounts(rnd), closed: -1}
		b := newLedger(t, m.key, m.accounts)
		for day := range 20 {
			play(t, rnd, b, m, day)
		}
		before := entriesOf(t, b)
		expectAudit(t, m.key, m.accounts, before, len(before), api.OK)
		if len(before) == 0 {
			continue
		}
		expectAudit(t, m.key^1<<rnd.Intn(64), m.accounts, before, 0, api.ErrFalse)
		l, at := spoil(rnd, slices.Clone(before))
		want, e := audited(m.key, m.accounts, l)
		expectAudit(t, m.key, m.accounts, l, want, e)
		if !slices.Equal(l, before[:min(len(before), len(l))]) && want != at {
			t.Fatal(l, before, want, at)
		}
		met[e]++
	}
	for _, e := range []api.Errno{api.OK, api.ErrArg, api.ErrBooks, api.ErrFalse} {
		if met[e] < 20 {
			t.Error("not enough", e, met)
		}
	}
}

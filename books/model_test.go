package books_test

import (
	"math/rand"
	"slices"
	"testing"

	"foldhouse/api"
	"foldhouse/books"
)

func flow(good int) books.Account { return books.Account{Good: good} }

func stock(good int) books.Account { return books.Account{Good: good, Stock: true} }

func entry(from, to, amount, day int) books.Entry {
	return books.Entry{From: from, To: to, Amount: amount, Day: day}
}

func pay(from, to, amount int) books.Pay { return books.Pay{From: from, To: to, Amount: amount} }

// newLedger returns a ledger with entries, and fails if there is an error.
func newLedger(t *testing.T, key uint64, l []books.Account, entries ...books.Entry) *books.Ledger {
	t.Helper()
	b, e := books.New(key, l)
	if b == nil || e != api.OK {
		t.Fatal(l, e)
	}
	for _, x := range entries {
		expectPost(t, b, x, api.OK)
	}
	return b
}

func expectPost(t *testing.T, b *books.Ledger, x books.Entry, want api.Errno) {
	t.Helper()
	if e := b.Post(x); e != want {
		t.Fatal(x, e, want)
	}
}

func expectBalance(t *testing.T, b *books.Ledger, account, day, want int, code api.Errno) {
	t.Helper()
	if n, e := b.Balance(account, day); n != want || e != code {
		t.Fatal(account, day, n, e, want, code)
	}
}

func expectStocks(t *testing.T, b *books.Ledger, day int, want ...int) {
	t.Helper()
	if l, e := b.Stocks(day); !slices.Equal(l, want) || e != api.OK {
		t.Fatal(day, l, e, want)
	}
}

func expectClosed(t *testing.T, b *books.Ledger, want int) {
	t.Helper()
	if n, e := b.Closed(); n != want || e != api.OK {
		t.Fatal(n, e, want)
	}
}

// expectClose closes a day, and checks the differences.
func expectClose(t *testing.T, b *books.Ledger, day int, counted []int, want ...int) {
	t.Helper()
	if l, e := b.Close(day, counted); !slices.Equal(l, want) || e != api.OK {
		t.Fatal(day, counted, l, e, want)
	}
}

// expectRefused checks that a day is not closed, for an error.
func expectRefused(t *testing.T, b *books.Ledger, day int, counted []int, want api.Errno) {
	t.Helper()
	if l, e := b.Close(day, counted); l != nil || e != want {
		t.Fatal(day, counted, l, e, want)
	}
}

// entriesOf returns the entries of a ledger with their signs.
func entriesOf(t *testing.T, b *books.Ledger) []books.Signed {
	t.Helper()
	l, e := b.Entries()
	if e != api.OK {
		t.Fatal(e)
	}
	return l
}

// expectEntries checks the entries of a ledger, not their signs.
func expectEntries(t *testing.T, b *books.Ledger, want ...books.Entry) {
	t.Helper()
	var l []books.Entry
	for _, s := range entriesOf(t, b) {
		l = append(l, s.Entry)
	}
	if !slices.Equal(l, want) {
		t.Fatal(l, want)
	}
}

// model is a ledger by the words of the chapter.
type model struct {
	key      uint64
	accounts []books.Account
	entries  []books.Signed
	closed   int
}

// step multiplies by adding, and rotates bit by bit.
func step(h, v uint64) uint64 {
	product := uint64(0)
	for i := range 64 {
		if uint64(0x9FB21C651E98DF25)>>i&1 == 1 {
			product += (h ^ v) << i
		}
	}
	for range 29 {
		product = product<<1 | product>>63
	}
	return product
}

// sign returns the sign of an entry behind those of a model.
func (m *model) sign(x books.Entry) uint64 {
	before := step(m.key, 1)
	if n := len(m.entries); n > 0 {
		before = m.entries[n-1].Sign
	}
	return step(step(step(step(step(before, uint64(x.From)), uint64(x.To)), uint64(x.Amount)), uint64(x.Day)), m.key)
}

func (m *model) balance(account, day int) int {
	sum := 0
	for _, s := range m.entries {
		if s.Entry.Day <= day && s.Entry.To == account {
			sum += s.Entry.Amount
		}
		if s.Entry.Day <= day && s.Entry.From == account {
			sum -= s.Entry.Amount
		}
	}
	return sum
}

func (m *model) hasNo(account int) bool { return account < 0 || account >= len(m.accounts) }

// post puts in an entry, or returns the error that the chapter names first.
func (m *model) post(x books.Entry) api.Errno {
	switch {
	case len(m.entries) == 5000:
		return api.ErrMany
	case m.hasNo(x.From) || m.hasNo(x.To) || x.From == x.To:
		return api.ErrArg
	case m.accounts[x.From].Good != m.accounts[x.To].Good:
		return api.ErrBooks
	case x.Amount < 1 || x.Amount > 1000000000000 || x.Day < 0 || x.Day > 100000:
		return api.ErrRange
	case x.Day <= m.closed:
		return api.ErrTime
	case len(m.entries) > 0 && x.Day < m.entries[len(m.entries)-1].Entry.Day:
		return api.ErrOrder
	case m.accounts[x.From].Stock && m.balance(x.From, x.Day) < x.Amount:
		return api.ErrState
	}
	m.entries = append(m.entries, books.Signed{Entry: x, Sign: m.sign(x)})
	return api.OK
}

func (m *model) stocks() []int {
	var l []int
	for i, a := range m.accounts {
		if a.Stock {
			l = append(l, i)
		}
	}
	return l
}

// close closes a day, or returns the error that the chapter names first.
func (m *model) close(day int, counted []int) ([]int, api.Errno) {
	switch {
	case day < 0 || day > 100000:
		return nil, api.ErrRange
	case day <= m.closed:
		return nil, api.ErrTime
	case len(m.entries) > 0 && day < m.entries[len(m.entries)-1].Entry.Day:
		return nil, api.ErrOrder
	case len(counted) != len(m.stocks()):
		return nil, api.ErrArg
	}
	var differences []int
	more := 0
	for i, stock := range m.stocks() {
		balance := m.balance(stock, day)
		if counted[i] < 0 || counted[i] > balance+1000000000000 || counted[i] < balance-1000000000000 {
			return nil, api.ErrRange
		}
		differences = append(differences, counted[i]-balance)
		if counted[i] != balance {
			more++
		}
	}
	if len(m.entries)+more > 5000 {
		return nil, api.ErrMany
	}
	for i, stock := range m.stocks() {
		m.correct(stock, differences[i], day)
	}
	m.closed = day
	return differences, api.OK
}

// correct puts in the entry for a difference of a stock.
func (m *model) correct(stock, difference, day int) {
	loss := slices.Index(m.accounts, books.Account{Good: m.accounts[stock].Good})
	if difference < 0 {
		m.post(entry(stock, loss, -difference, day))
	}
	if difference > 0 {
		m.post(entry(loss, stock, difference, day))
	}
}

// expect checks that a ledger is the one of the model.
func (m *model) expect(t *testing.T, b *books.Ledger) {
	t.Helper()
	if l := entriesOf(t, b); !slices.Equal(l, m.entries) {
		t.Fatal(l, m.entries)
	}
	expectClosed(t, b, m.closed)
}

// expectOn checks all balances of a ledger on a day.
func (m *model) expectOn(t *testing.T, b *books.Ledger, day int) {
	t.Helper()
	sums := make([]int, 4)
	for i, a := range m.accounts {
		expectBalance(t, b, i, day, m.balance(i, day), api.OK)
		if a.Stock {
			sums[a.Good-1] += m.balance(i, day)
		}
	}
	expectStocks(t, b, day, sums...)
}

// anyAccounts returns accounts that are allowed.
func anyAccounts(rnd *rand.Rand) []books.Account {
	var l []books.Account
	for range 1 + rnd.Intn(3) {
		good := 1 + rnd.Intn(4)
		l = append(l, flow(good))
		for range rnd.Intn(4) {
			l = append(l, books.Account{Good: good, Stock: rnd.Intn(3) > 0})
		}
	}
	rnd.Shuffle(len(l), func(i, j int) { l[i], l[j] = l[j], l[i] })
	return l
}

// anyOf returns an element of a list.
func anyOf[T any](rnd *rand.Rand, l []T) T { return l[rnd.Intn(len(l))] }

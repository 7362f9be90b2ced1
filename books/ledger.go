package books

import (
	"slices"

	"foldhouse/api"
)

// Ledger has entries.
type Ledger struct {
	// made is the ledger itself, so that one that no function returned can be told.
	made *Ledger
	accounts
	key    uint64
	closed int
	state
}

// state is what an entry changes.
type state struct {
	entries []Signed
	now     balances
}

// New returns a ledger without entries.
func New(key uint64, l []Account) (*Ledger, api.Errno) {
	if e := Check(l); e != api.OK {
		return nil, e
	}
	return newLedger(Ledger{accounts: l, key: key, closed: -1}), api.OK
}

// newLedger returns a ledger that shares no memory with another one.
func newLedger(b Ledger) *Ledger {
	b.accounts = slices.Clone(b.accounts)
	b.entries = slices.Clone(b.entries)
	b.made = &b
	return &b
}

func (b *Ledger) isMade() bool { return b != nil && b.made == b }

// Balance returns the balance of an account on a day.
func (b *Ledger) Balance(account, day int) (int, api.Errno) {
	if !b.isMade() {
		return 0, api.ErrNil
	}
	if !b.has(account) {
		return 0, api.ErrArg
	}
	if !isDay(day) {
		return 0, api.ErrRange
	}
	return b.on(day)[account], api.OK
}

// Stocks returns the stocks of each good on a day.
func (b *Ledger) Stocks(day int) ([]int, api.Errno) {
	if !b.isMade() {
		return nil, api.ErrNil
	}
	if !isDay(day) {
		return nil, api.ErrRange
	}
	then := b.on(day)
	sums := make([]int, Money)
	for _, stock := range b.stocks() {
		sums[b.good(stock)-Copies] += then[stock]
	}
	return sums, api.OK
}

// on returns the balances of all accounts on a day.
func (b *Ledger) on(day int) balances {
	var then balances
	for _, s := range b.entries {
		if s.Entry.Day > day {
			break
		}
		then.move(s.Entry)
	}
	return then
}

// Closed returns the last closed day.
func (b *Ledger) Closed() (int, api.Errno) {
	if !b.isMade() {
		return 0, api.ErrNil
	}
	return b.closed, api.OK
}

// Entries returns all entries.
func (b *Ledger) Entries() ([]Signed, api.Errno) {
	if !b.isMade() {
		return nil, api.ErrNil
	}
	return slices.Clone(b.entries), api.OK
}

// Copy returns a copy of a ledger.
func (b *Ledger) Copy() (*Ledger, api.Errno) {
	if !b.isMade() {
		return nil, api.ErrNil
	}
	return newLedger(*b), api.OK
}

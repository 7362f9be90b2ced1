package books

import "foldhouse/api"

// rule is a rule of entries, with the error of an entry that does not keep it.
type rule struct {
	wrong  api.Errno
	isKept func(b *Ledger, e Entry) bool
}

// rules returns the rules of entries; each one relies on those before it.
func rules() []rule {
	return []rule{
		{api.ErrMany, func(b *Ledger, e Entry) bool { return len(b.entries) < MaxEntries }},
		{api.ErrArg, func(b *Ledger, e Entry) bool { return b.has(e.From) && b.has(e.To) && e.From != e.To }},
		{api.ErrBooks, func(b *Ledger, e Entry) bool { return b.good(e.From) == b.good(e.To) }},
		{api.ErrRange, func(b *Ledger, e Entry) bool { return within(e.Amount, 1, MaxAmount) && isDay(e.Day) }},
		{api.ErrTime, func(b *Ledger, e Entry) bool { return b.isOpen(e.Day) }},
		{api.ErrOrder, func(b *Ledger, e Entry) bool { return b.lastDay() <= e.Day }},
		{api.ErrState, func(b *Ledger, e Entry) bool { return !b.isStock(e.From) || b.now[e.From] >= e.Amount }},
	}
}

// Post puts in an entry.
func (b *Ledger) Post(e Entry) api.Errno {
	if !b.isMade() {
		return api.ErrNil
	}
	for _, r := range rules() {
		if !r.isKept(b, e) {
			return r.wrong
		}
	}
	b.entries = append(b.entries, Signed{e, e.sign(b.lastSign(), b.key)})
	b.now.move(e)
	return api.OK
}

func (b *Ledger) isOpen(day int) bool { return day > b.closed }

// lastDay returns the day of the last entry, 0 if there is none.
func (b *Ledger) lastDay() int {
	if len(b.entries) == 0 {
		return 0
	}
	return b.entries[len(b.entries)-1].Entry.Day
}

// lastSign returns the sign that the next entry follows.
func (b *Ledger) lastSign() uint64 {
	if len(b.entries) == 0 {
		return Step(b.key, 1)
	}
	return b.entries[len(b.entries)-1].Sign
}

// sign returns the sign of an entry that follows another sign.
func (e Entry) sign(before, key uint64) uint64 {
	sign := before
	for _, n := range []int{e.From, e.To, e.Amount, e.Day} {
		sign = Step(sign, uint64(n))
	}
	return Step(sign, key)
}

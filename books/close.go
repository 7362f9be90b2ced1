package books

import "foldhouse/api"

// Close closes a day.
func (b *Ledger) Close(day int, counted []int) ([]int, api.Errno) {
	if !b.isMade() {
		return nil, api.ErrNil
	}
	if e := b.checkClose(day, counted); e != api.OK {
		return nil, e
	}
	differences := make([]int, len(counted))
	for i, stock := range b.stocks() {
		differences[i] = counted[i] - b.now[stock]
	}
	if e := b.adjust(day, differences); e != api.OK {
		return nil, e
	}
	b.closed = day
	return differences, api.OK
}

// checkClose returns the first error of a day that is to be closed, and of what was counted.
func (b *Ledger) checkClose(day int, counted []int) api.Errno {
	if !isDay(day) {
		return api.ErrRange
	}
	if !b.isOpen(day) {
		return api.ErrTime
	}
	if day < b.lastDay() {
		return api.ErrOrder
	}
	stocks := b.stocks()
	if len(counted) != len(stocks) {
		return api.ErrArg
	}
	for i, stock := range stocks {
		if counted[i] < 0 || !within(counted[i]-b.now[stock], -MaxAmount, MaxAmount) {
			return api.ErrRange
		}
	}
	return api.OK
}

// adjust puts in the entries that add the differences to the stocks; if one of them is refused, none.
func (b *Ledger) adjust(day int, differences []int) (e api.Errno) {
	before := b.state
	defer func() {
		if e != api.OK {
			b.state = before
		}
	}()
	for i, stock := range b.stocks() {
		if differences[i] == 0 {
			continue
		}
		if e := b.Post(b.adjustment(stock, differences[i], day)); e != api.OK {
			return e
		}
	}
	return api.OK
}

// adjustment returns the entry that adds a difference to a stock.
func (b *Ledger) adjustment(stock, difference, day int) Entry {
	loss, _ := b.loss(b.good(stock))
	if difference < 0 {
		return Entry{stock, loss, -difference, day}
	}
	return Entry{loss, stock, difference, day}
}

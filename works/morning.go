package works

import (
	"foldhouse/api"
	"foldhouse/books"
	"foldhouse/edition"
	"foldhouse/mail"
	"foldhouse/reel"
)

// Accounts of the books.
const (
	printed = iota
	copiesInStock
	thrownOut
	delivered
	mills
	paperInStock
	paperUsed
)

// mail puts the good copies through the mailroom.
func (n *night) mail(o Order) (int, api.Errno) {
	if !n.isDone() || n.mailed {
		return 0, api.ErrOrder
	}
	flow, e := mail.Run(n.Line, n.zones(), o.Faults)
	if e != api.OK {
		return 0, e
	}
	n.bundles, e = mail.Bundles(n.Line, flow, n.Drops, n.Pack)
	n.mailed = true
	return len(n.bundles), e
}

// zones returns the zones of the good copies of all editions.
func (n *night) zones() []int {
	var zones []int
	parts, _ := edition.Parts(n.Title, n.order)
	for _, part := range parts {
		for range part.Span.Hi - part.Span.Lo + 1 {
			zones = append(zones, part.Zone)
		}
	}
	return zones
}

// shut closes the books.
func (n *night) shut(o Order) (int, api.Errno) {
	if !n.mailed || n.closed {
		return 0, api.ErrOrder
	}
	ledger, e := n.ledger(o.N)
	if e != api.OK {
		return 0, e
	}
	if _, e := ledger.Close(o.N, o.Counted); e != api.OK {
		return 0, e
	}
	n.entries, _ = ledger.Entries()
	n.closed = true
	return len(n.entries), api.OK
}

// ledger returns the books of a day, before it is closed.
func (n *night) ledger(day int) (*books.Ledger, api.Errno) {
	ledger, e := books.New(n.Key, accounts())
	if e != api.OK {
		return nil, e
	}
	for _, entry := range n.moves() {
		entry.Day = day
		if entry.Amount == 0 {
			continue
		}
		if e := ledger.Post(entry); e != api.OK {
			return nil, e
		}
	}
	return ledger, api.OK
}

func accounts() []books.Account {
	copies, paper := books.Account{Good: books.Copies}, books.Account{Good: books.Paper}
	accounts := []books.Account{copies, copies, copies, copies, paper, paper, paper}
	accounts[copiesInStock].Stock, accounts[paperInStock].Stock = true, true
	return accounts
}

// moves returns the entries for what has become of copies and paper, without their day; some may have no amount.
func (n *night) moves() []books.Entry {
	all, bundled := n.copies.printed(), 0
	for _, b := range n.bundles {
		bundled += len(b.Copies)
	}
	brought, used := n.paper()
	return []books.Entry{
		{From: printed, To: copiesInStock, Amount: all},
		{From: copiesInStock, To: thrownOut, Amount: all - bundled},
		{From: copiesInStock, To: delivered, Amount: bundled},
		{From: mills, To: paperInStock, Amount: brought},
		{From: paperInStock, To: paperUsed, Amount: used},
	}
}

// paper returns how much paper all reels had, and how much of it was used.
func (n *night) paper() (brought, used int) {
	uses, _ := reel.Used(n.Paper, n.copies.printed())
	for _, u := range uses {
		brought += u.Used + u.Rest
		used += u.Used
	}
	return brought, used
}

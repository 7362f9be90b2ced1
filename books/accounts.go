package books

import "foldhouse/api"

// accounts are those of a ledger.
type accounts []Account

// check returns ErrBooks if there is an account of no good, or a stock whose good has no flow.
func (l accounts) check() api.Errno {
	for _, a := range l {
		if !within(a.Good, Copies, Money) {
			return api.ErrBooks
		}
		if _, found := l.loss(a.Good); !found {
			return api.ErrBooks
		}
	}
	return api.OK
}

// loss returns the first flow of a good, if it has one.
func (l accounts) loss(good int) (int, bool) {
	for i, a := range l {
		if a.Good == good && !a.Stock {
			return i, true
		}
	}
	return 0, false
}

func (l accounts) has(account int) bool { return within(account, 0, len(l)-1) }

func (l accounts) isStock(account int) bool { return l[account].Stock }

func (l accounts) good(account int) int { return l[account].Good }

// stocks returns the stocks, in order.
func (l accounts) stocks() []int {
	var stocks []int
	for i := range l {
		if l.isStock(i) {
			stocks = append(stocks, i)
		}
	}
	return stocks
}

// balances are those of all accounts.
type balances [MaxAccounts]int

func (b *balances) move(e Entry) {
	b[e.From] -= e.Amount
	b[e.To] += e.Amount
}

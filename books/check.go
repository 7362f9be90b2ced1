package books

import "foldhouse/api"

// within reports whether a number is from lo to hi.
func within(n, lo, hi int) bool { return lo <= n && n <= hi }

func isDay(n int) bool { return within(n, 0, MaxDay) }

// allWithin reports whether all numbers of a list are from lo to hi.
func allWithin(l []int, lo, hi int) bool {
	for _, n := range l {
		if !within(n, lo, hi) {
			return false
		}
	}
	return true
}

func sum(l []int) int {
	total := 0
	for _, n := range l {
		total += n
	}
	return total
}

// checkShares returns the first error of a total and of the weights by which it is shared.
func checkShares(total int, weights []int) api.Errno {
	if !within(len(weights), 1, MaxShares) {
		return api.ErrMany
	}
	if !within(total, 0, MaxAmount) || !allWithin(weights, 0, maxWeight) {
		return api.ErrRange
	}
	if sum(weights) == 0 {
		return api.ErrNone
	}
	return api.OK
}

// checkParties returns the first error of the balances of parties.
func checkParties(l []int) api.Errno {
	if len(l) > MaxParties {
		return api.ErrMany
	}
	if !allWithin(l, -maxOwed, maxOwed) {
		return api.ErrRange
	}
	if sum(l) != 0 {
		return api.ErrState
	}
	return api.OK
}

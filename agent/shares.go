package agent

import "slices"

// share gives each agent its Least, and then the copies that are left one by one.
func share(l []Order, copies int) []int {
	given := make([]int, len(l))
	var wanting []int
	for i, o := range l {
		given[i] = o.Least
		copies -= o.Least
		if o.Least < o.Copies {
			wanting = append(wanting, i)
		}
	}
	byPart := func(i, j int) int { return compareParts(given[i], l[i].Copies, given[j], l[j].Copies) }
	for ; copies > 0; copies-- {
		next, found := least(wanting, byPart)
		if !found {
			break
		}
		given[next]++
		if given[next] == l[next].Copies {
			wanting = slices.DeleteFunc(wanting, func(i int) bool { return i == next })
		}
	}
	return given
}

// areAllowed reports whether shares are together what there is to give, and each one is allowed by its order.
func areAllowed(l []Order, copies int, shares []int) bool {
	given, ordered := 0, 0
	for i, o := range l {
		if !within(shares[i], o.Least, o.Copies) {
			return false
		}
		given += shares[i]
		ordered += o.Copies
	}
	return given == min(copies, ordered)
}

// areEven reports whether no copy could go from one agent to another one that has a lesser part of its order.
func areEven(l []Order, shares []int) bool {
	for i, from := range l {
		for j, to := range l {
			couldGo := shares[i] > from.Least && shares[j] < to.Copies
			if couldGo && compareParts(shares[i]-1, from.Copies, shares[j], to.Copies) > 0 {
				return false
			}
		}
	}
	return true
}

package books

import (
	"cmp"
	"slices"
)

// share rounds all shares down, and gives what is left to those of which the most was cut off.
func share(total int, weights []int) []int {
	all, left := sum(weights), total
	shares, cut, order := make([]int, len(weights)), make([]int, len(weights)), make([]int, len(weights))
	for i, w := range weights {
		shares[i], cut[i], order[i] = total*w/all, total*w%all, i
		left -= shares[i]
	}
	slices.SortStableFunc(order, func(i, j int) int { return cmp.Compare(cut[j], cut[i]) })
	for _, i := range order[:left] {
		shares[i]++
	}
	return shares
}

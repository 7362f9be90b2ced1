package plate

import (
	"cmp"
	"slices"
)

// shortest returns the first one of the shortest ways. Each of these goes to the farthest position on one side that it has to meet there, and then, if any are left, to that on the other side.
func shortest(positions, first int, l []int) []int {
	ahead := []int{0}
	for _, position := range l {
		ahead = append(ahead, (position-first+positions)%positions)
	}
	slices.Sort(ahead)
	ahead = slices.Compact(ahead)
	var ways [][]int
	for i, forward := range ahead {
		back := 0
		if i < len(ahead)-1 {
			back = positions - ahead[i+1]
		}
		ways = append(ways, bend(1, forward, back), bend(-1, back, forward))
	}
	return slices.MinFunc(ways, func(a, b []int) int {
		// Of ways of one length that with the greater move is the first one, as 1 is before -1.
		return cmp.Or(cmp.Compare(len(a), len(b)), slices.Compare(b, a))
	})
}

// bend returns the way that makes a move so many times, and then goes back and so far beyond its beginning.
func bend(move, times, beyond int) []int {
	way := slices.Repeat([]int{move}, times)
	if beyond > 0 {
		way = append(way, slices.Repeat([]int{-move}, times+beyond)...)
	}
	return way
}

package mail

import (
	"slices"

	"foldhouse/api"
)

func (p Pack) isRight() bool {
	return within(p.Size, 1, maxSize) && within(p.Least, 1, (p.Size+1)/2)
}

// sizes returns the sizes of the bundles of n copies.
func (p Pack) sizes(n int) []int {
	whole, rest := n/p.Size, n%p.Size
	sizes := slices.Repeat([]int{p.Size}, whole)
	switch {
	case rest == 0:
		return sizes
	case rest >= p.Least || whole == 0:
		return append(sizes, rest)
	}
	both := p.Size + rest
	return append(sizes[:whole-1], both-both/2, both/2)
}

// bundles returns the bundles of a drop that gets copies.
func (d Drop) bundles(p Pack, numbers []int) []Bundle {
	sizes := p.sizes(d.Copies)
	bundles := make([]Bundle, len(sizes))
	for i, size := range sizes {
		bundles[i] = Bundle{Drop: d.Id, Number: i + 1, Of: len(sizes), Copies: slices.Clone(numbers[:size])}
		numbers = numbers[size:]
	}
	return bundles
}

// share returns for each drop the numbers of the copies that go to it, as far as there are some.
func share(f Flow, drops []Drop) [][]int {
	left := map[int][]int{}
	for _, c := range f.Copies {
		left[c.Zone] = append(left[c.Zone], c.Number)
	}
	given := make([][]int, len(drops))
	for i, d := range drops {
		l := left[d.Zone]
		n := min(d.Copies, len(l))
		given[i], left[d.Zone] = l[:n], l[n:]
	}
	return given
}

// checkBundling returns the first error of what is bundled, but for that of too few copies.
func checkBundling(l Line, f Flow, drops []Drop, p Pack) api.Errno {
	if e := Check(l); e != api.OK {
		return e
	}
	if e := l.checkDrops(drops); e != api.OK {
		return e
	}
	if !p.isRight() || !f.isInOrder() {
		return api.ErrArg
	}
	return api.OK
}

func (l Line) checkDrops(drops []Drop) api.Errno {
	if len(drops) > MaxDrops {
		return api.ErrMany
	}
	met := map[int]bool{}
	for _, d := range drops {
		if !within(d.Id, 0, maxId) || !l.isZone(d.Zone) || !within(d.Copies, 0, MaxRun) {
			return api.ErrRange
		}
		if met[d.Id] {
			return api.ErrTwice
		}
		met[d.Id] = true
	}
	return api.OK
}

// isInOrder reports whether the copies of a flow and its declared batches are in order.
func (f Flow) isInOrder() bool {
	last := -1
	for _, c := range f.Copies {
		if c.Number <= last {
			return false
		}
		last = c.Number
	}
	for i := 1; i < len(f.Declared); i++ {
		if f.Declared[i] <= f.Declared[i-1] {
			return false
		}
	}
	return true
}

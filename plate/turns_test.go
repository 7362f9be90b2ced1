package plate_test

import (
	"math"
	"math/rand"
	"slices"
	"testing"

	"foldhouse/api"
	"foldhouse/plate"
)

// turned is where a cylinder is, and the positions that it has met.
type turned struct {
	position int
	met      uint32
}

// turn returns the cylinder after a move.
func (c turned) turn(positions, move int) turned {
	next := (c.position + move + positions) % positions
	return turned{next, c.met | 1<<next}
}

// firstWay seeks a shortest way among all of them, in their order.
func firstWay(positions, first int, l []int) []int {
	type step struct {
		turned
		way []int
	}
	begin := turned{first, 1 << first}
	seen := map[turned]bool{begin: true}
	steps := []step{{turned: begin}}
	for {
		s := steps[0]
		steps = steps[1:]
		if !slices.ContainsFunc(l, func(position int) bool { return s.met>>position&1 == 0 }) {
			return s.way
		}
		for _, move := range []int{1, -1} {
			if next := s.turn(positions, move); !seen[next] {
				seen[next] = true
				steps = append(steps, step{next, append(slices.Clone(s.way), move)})
			}
		}
	}
}

// moves returns some moves forward and some back.
func moves(l ...int) []int {
	var way []int
	for _, n := range l {
		for range max(n, -n) {
			way = append(way, n/max(n, -n))
		}
	}
	return way
}

// P4.2: the examples of the chapter, and some others.
func TestTurns(t *testing.T) {
	for i, c := range []struct {
		positions, first int
		l                []int
		want             []int
	}{
		{8, 0, []int{1, 2, 7}, []int{-1, 1, 1, 1}},
		{8, 0, []int{1, 2, 6}, moves(6)},
		{8, 0, []int{7, 1, 2, 1, 0, 7}, []int{-1, 1, 1, 1}},
		{10, 5, nil, nil},
		{10, 5, []int{}, nil},
		{10, 5, []int{5, 5}, nil},
		{2, 0, []int{1}, moves(1)},
		{2, 1, []int{0, 1}, moves(1)},
		{3, 2, []int{0}, moves(1)},
		{3, 2, []int{1}, moves(-1)},
		{3, 2, []int{0, 1}, moves(2)},
		{4, 3, []int{1}, moves(2)},
		{24, 23, []int{0}, moves(1)},
		{24, 0, []int{23}, moves(-1)},
		{24, 0, []int{12}, moves(12)},
		{24, 0, []int{13}, moves(-11)},
		{24, 0, []int{1, 23}, moves(1, -2)},
		{24, 5, []int{7, 1}, moves(2, -6)},
		{24, 5, []int{9, 3}, moves(-2, 6)},
		{24, 5, []int{8, 2}, moves(3, -6)},
		// All forward, or all back, or both, are as long.
		{9, 0, []int{3, 6}, moves(6)},
		{9, 0, []int{1, 2, 3, 4, 5, 6, 7, 8}, moves(8)},
		{9, 0, []int{8, 1, 4}, moves(-1, 5)},
		{9, 0, []int{2, 7}, moves(2, -4)},
		{9, 4, []int{4, 4, 3}, moves(-1)},
	} {
		if l, e := plate.Turns(c.positions, c.first, c.l); e != api.OK || !slices.Equal(l, c.want) {
			t.Error(i, l, e)
		}
	}
}

// P4.2: what is not allowed.
func TestTurnsErrors(t *testing.T) {
	for i, c := range []struct {
		positions, first int
		l                []int
		want             api.Errno
	}{
		{2, 0, nil, api.OK},
		{24, 23, nil, api.OK},
		{1, 0, nil, api.ErrRange},
		{0, 0, nil, api.ErrRange},
		{-1, 0, nil, api.ErrRange},
		{25, 0, nil, api.ErrRange},
		{math.MinInt, 0, nil, api.ErrRange},
		{math.MaxInt, 0, nil, api.ErrRange},
		{4, 3, nil, api.OK},
		{4, 4, nil, api.ErrRange},
		{4, -1, nil, api.ErrRange},
		{4, math.MinInt, nil, api.ErrRange},
		{4, math.MaxInt, nil, api.ErrRange},
		{4, 0, []int{0, 3}, api.OK},
		{4, 0, []int{4}, api.ErrRange},
		{4, 0, []int{1, 2, -1}, api.ErrRange},
		{4, 0, []int{math.MinInt}, api.ErrRange},
		{4, 0, []int{math.MaxInt}, api.ErrRange},
		{24, 0, []int{23}, api.OK},
		{24, 0, []int{24}, api.ErrRange},
		{4, 0, make([]int, 100), api.OK},
		{4, 0, make([]int, 101), api.ErrMany},
		{4, 0, slices.Repeat([]int{1, 2}, 5000), api.ErrMany},
		{4, 0, append(make([]int, 101), 4), api.ErrRange},
		{4, 0, append([]int{4}, make([]int, 101)...), api.ErrRange},
		{4, 4, make([]int, 101), api.ErrRange},
		{25, 0, make([]int, 101), api.ErrRange},
	} {
		l, e := plate.Turns(c.positions, c.first, c.l)
		if e != c.want || e != api.OK && l != nil {
			t.Error(i, l, e)
		}
	}
}

// P4.2, P4.5: of all ways Turns returns the first one of the shortest, for all sets of positions of small cylinders.
func TestAllTurns(t *testing.T) {
	for positions := 2; positions <= 8; positions++ {
		for first := range positions {
			for set := range 1 << positions {
				var l []int
				for position := range positions {
					if set>>position&1 == 1 {
						l = append(l, position)
					}
				}
				expectTurns(t, positions, first, l)
			}
		}
	}
}

// P4.2, P4.5: the same for cylinders of any size.
func TestAnyTurns(t *testing.T) {
	rnd := rand.New(rand.NewSource(5))
	for range 1000 {
		positions := 2 + rnd.Intn(23)
		var l []int
		for range rnd.Intn(6) {
			l = append(l, rnd.Intn(positions))
		}
		if len(l) > 0 && rnd.Intn(4) == 0 {
			l = append(l, l[0])
		}
		expectTurns(t, positions, rnd.Intn(positions), l)
	}
}

func expectTurns(t *testing.T, positions, first int, l []int) {
	t.Helper()
	want := firstWay(positions, first, l)
	if way, e := plate.Turns(positions, first, l); e != api.OK || !slices.Equal(way, want) {
		t.Error(positions, first, l, way, e, want)
	}
}

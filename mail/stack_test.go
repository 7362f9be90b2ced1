package mail_test

import (
	"math"
	"math/rand"
	"slices"
	"testing"

	"foldhouse/api"
	"foldhouse/mail"
)

func expectTurns(t *testing.T, n, limit, end int, e api.Errno, want ...int) {
	t.Helper()
	if l, is := mail.Turns(n, limit, end); is != e || !slices.Equal(l, want) || e != api.OK && l != nil {
		t.Error(n, limit, end, l, is, e, want)
	}
}

// P9.5: the chapter's example 3, and other stacks.
func TestTurns(t *testing.T) {
	expectTurns(t, 10, 3, 1, api.OK, 2, 5, 3)
	expectTurns(t, 1, 1, 1, api.OK, 1)
	expectTurns(t, 1, 1, 0, api.ErrNone)
	expectTurns(t, 2, 1, 0, api.OK, 1, 1)
	expectTurns(t, 2, 1, 1, api.OK, 1, 1)
	expectTurns(t, 2, 2, 2, api.OK, 2)
	expectTurns(t, 2, 2, 1, api.OK, 1, 1)
	expectTurns(t, 3, 3, 3, api.OK, 3)
	expectTurns(t, 3, 3, 2, api.OK, 1, 2)
	expectTurns(t, 3, 3, 0, api.ErrNone)
	expectTurns(t, 4, 2, 0, api.OK, 2, 2)
	expectTurns(t, 5, 2, 1, api.OK, 2, 3)
	expectTurns(t, 6, 1, 0, api.OK, 1, 2, 2, 1)
	expectTurns(t, 9, 3, 3, api.OK, 3, 6)
	expectTurns(t, 200, 200, 200, api.OK, 200)
	expectTurns(t, 200, 200, 199, api.OK, 1, 199)
	expectTurns(t, 200, 200, 0, api.OK, 100, 100)
	expectTurns(t, 199, 199, 0, api.ErrNone)
	expectTurns(t, 200, 1, 0, api.OK, append(append([]int{1}, slices.Repeat([]int{2}, 99)...), 1)...)
	expectTurns(t, 199, 1, 1, api.OK, append([]int{1}, slices.Repeat([]int{2}, 99)...)...)
}

// P9.5: which arguments of Turns are allowed.
func TestTurnsErrors(t *testing.T) {
	for _, x := range [][3]int{
		{0, 0, 0}, {0, 1, 0}, {-1, 1, 0}, {math.MinInt, 1, 0}, {201, 1, 0}, {201, 201, 201}, {math.MaxInt, 1, 1},
		{5, 0, 0}, {5, -1, 0}, {5, 6, 0}, {5, math.MaxInt, 0}, {5, math.MinInt, 0},
		{5, 2, -1}, {5, 2, 3}, {5, 2, math.MaxInt}, {5, 2, math.MinInt}, {5, 6, 6},
	} {
		expectTurns(t, x[0], x[1], x[2], api.ErrArg)
	}
}

// isRightStack reports whether a stack is right, from the copies that are straight and turned.
func isRightStack(layers []int, limit, end int) bool {
	straight, turned := 0, 0
	for i, layer := range layers {
		if i%2 == 0 {
			straight += layer
		} else {
			turned += layer
		}
		if straight > turned+limit || turned > straight+limit {
			return false
		}
	}
	return straight <= turned+end && turned <= straight+end
}

// stacks returns all stacks of n copies, those with the fewest layers first, and in lexicographic order.
func stacks(n int) [][]int {
	var all [][]int
	for bits := range 1 << (n - 1) {
		layers := []int{1}
		for i := range n - 1 {
			if bits>>i&1 == 1 {
				layers = append(layers, 1)
			} else {
				layers[len(layers)-1]++
			}
		}
		all = append(all, layers)
	}
	slices.SortFunc(all, func(a, b []int) int {
		if len(a) != len(b) {
			return len(a) - len(b)
		}
		return slices.Compare(a, b)
	})
	return all
}

// P9.5: all stacks of a few copies.
func TestAllStacks(t *testing.T) {
	for n := 1; n <= 12; n++ {
		all := stacks(n)
		for limit := 1; limit <= n; limit++ {
			for end := 0; end <= limit; end++ {
				best := slices.IndexFunc(all, func(l []int) bool { return isRightStack(l, limit, end) })
				if best < 0 {
					expectTurns(t, n, limit, end, api.ErrNone)
					continue
				}
				expectTurns(t, n, limit, end, api.OK, all[best]...)
			}
		}
	}
}

// turnsOf returns the stack with the fewest layers, sought from its end, layer by layer. The leans are those the way of the next layer.
func turnsOf(n, limit, end int) []int {
	best := make([][][]int, n+1)
	for left := range best {
		best[left] = make([][]int, 2*limit+1)
		for lean := -limit; lean <= limit; lean++ {
			if left == 0 && -end <= lean && lean <= end {
				best[0][lean+limit] = []int{}
			}
			for layer := 1; layer <= left && lean+layer <= limit; layer++ {
				rest := best[left-layer][limit-lean-layer]
				if l := best[left][lean+limit]; rest != nil && (l == nil || len(rest)+1 < len(l)) {
					best[left][lean+limit] = append([]int{layer}, rest...)
				}
			}
		}
	}
	return best[n][limit]
}

// P9.5: stacks of many copies.
func TestAnyStacks(t *testing.T) {
	rnd := rand.New(rand.NewSource(97))
	for i := range 120 {
		n := 1 + rnd.Intn(30+i)
		limit := 1 + rnd.Intn(n)
		if i%2 == 0 {
			limit = min(n, 1+rnd.Intn(12))
		}
		end := rnd.Intn(limit + 1)
		want := turnsOf(n, limit, end)
		if want == nil {
			expectTurns(t, n, limit, end, api.ErrNone)
			continue
		}
		expectTurns(t, n, limit, end, api.OK, want...)
		if is, e := mail.Straight(want, limit, end); !is || e != api.OK {
			t.Error(want, limit, end, is, e)
		}
	}
}

// P9.5: there is a stack, unless copies are odd and the end is 0.
func TestTurnsNone(t *testing.T) {
	for n := 1; n <= 200; n++ {
		for _, limit := range []int{1, 2, (n + 1) / 2, n} {
			limit = min(limit, n)
			for _, end := range []int{0, 1, limit} {
				want := api.OK
				if n%2 == 1 && end == 0 {
					want = api.ErrNone
				}
				l, e := mail.Turns(n, limit, end)
				if e != want || e == api.OK && !isRightStack(l, limit, end) {
					t.Error(n, limit, end, l, e)
				}
			}
		}
	}
}

func expectStraight(t *testing.T, layers []int, limit, end int, want bool, e api.Errno) {
	t.Helper()
	if is, code := mail.Straight(layers, limit, end); is != want || code != e {
		t.Error(layers, limit, end, is, code)
	}
}

// P9.5: which stacks are right.
func TestStraight(t *testing.T) {
	expectStraight(t, []int{2, 5, 3}, 3, 1, true, api.OK)
	expectStraight(t, []int{2, 5, 3}, 3, 0, true, api.OK)
	expectStraight(t, []int{2, 5, 3}, 2, 0, false, api.OK)
	expectStraight(t, []int{3, 7}, 3, 1, false, api.OK)
	expectStraight(t, []int{3, 6}, 3, 3, true, api.OK)
	expectStraight(t, []int{3, 6}, 3, 2, false, api.OK)
	expectStraight(t, []int{4, 4}, 3, 1, false, api.OK)
	expectStraight(t, []int{3, 1}, 3, 1, false, api.OK)
	expectStraight(t, []int{3, 1}, 3, 2, true, api.OK)
	expectStraight(t, []int{1}, 0, 0, false, api.OK)
	expectStraight(t, []int{1, 1}, 0, 0, false, api.OK)
	expectStraight(t, []int{1}, 1, 0, false, api.OK)
	expectStraight(t, []int{5}, 5, 9, true, api.OK)
	expectStraight(t, []int{5}, 4, 9, false, api.OK)
	expectStraight(t, []int{200, 200, 200}, 200, 200, true, api.OK)
	expectStraight(t, slices.Repeat([]int{200, 1}, 100), 19900, 19900, false, api.OK)
	expectStraight(t, slices.Repeat([]int{200, 1}, 100), math.MaxInt, 19900, true, api.OK)
	expectStraight(t, slices.Repeat([]int{200, 1}, 100), math.MaxInt, 19899, false, api.OK)
	expectStraight(t, slices.Repeat([]int{1}, 200), 1, 0, true, api.OK)
}

// P9.5: the errors of Straight.
func TestStraightErrors(t *testing.T) {
	for _, layers := range [][]int{nil, {}, {0}, {3, 0}, {-1, 3}, {201}, {1, 201}, {math.MaxInt, math.MaxInt}, {1, math.MinInt}} {
		expectStraight(t, layers, 300, 300, false, api.ErrArg)
	}
	for _, x := range [][2]int{{-1, 0}, {0, -1}, {-1, -1}, {math.MinInt, 5}, {5, math.MinInt}} {
		expectStraight(t, []int{1, 1}, x[0], x[1], false, api.ErrArg)
	}
	for _, layer := range []int{0, 1, 201} {
		expectStraight(t, slices.Repeat([]int{layer}, 201), 1, 1, false, api.ErrMany)
		expectStraight(t, slices.Repeat([]int{layer}, 201), -1, 1, false, api.ErrMany)
	}
}

// P9.5: any stacks.
func TestAnyStraight(t *testing.T) {
	rnd := rand.New(rand.NewSource(98))
	right := 0
	for range 5000 {
		layers := make([]int, 1+rnd.Intn(8))
		for i := range layers {
			layers[i] = 1 + rnd.Intn(6)
		}
		limit, end := rnd.Intn(12), rnd.Intn(12)
		want := isRightStack(layers, limit, end)
		expectStraight(t, layers, limit, end, want, api.OK)
		if want {
			right++
		}
	}
	if right < 1000 || right > 4000 {
		t.Error("not enough", right)
	}
}

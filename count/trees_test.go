package count_test

import (
	"math"
	"math/rand"
	"slices"
	"testing"

	"foldhouse/api"
	"foldhouse/count"
)

// root returns the counter 0.
func root(weight, reading, out int) count.Meter {
	return count.Meter{Up: -1, Weight: weight, Reading: reading, Out: out}
}

// on returns a counter that hangs on another one.
func on(up, weight, reading, out int) count.Meter {
	return count.Meter{Up: up, Weight: weight, Reading: reading, Out: out}
}

// chain returns counters each of which hangs on the one before it.
func chain(n int) []count.Meter {
	var l []count.Meter
	for i := range n {
		l = append(l, on(i-1, 1, 0, 0))
	}
	return l
}

// hangsOn reports whether a counter hangs on another one.
func hangsOn(l []count.Meter, up int) bool {
	return slices.ContainsFunc(l, func(m count.Meter) bool { return m.Up == up })
}

// areRight reports whether values are right, by the words of the chapter.
func areRight(l []count.Meter, values []int) bool {
	for i, m := range l {
		if values[i] < 0 || values[i] > 1000000000 {
			return false
		}
		sum := m.Out
		for j, other := range l {
			if other.Up == i {
				sum += values[j]
			}
		}
		if hangsOn(l, i) && values[i] != sum {
			return false
		}
	}
	return true
}

// costOf returns the cost of values, by the words of the chapter.
func costOf(l []count.Meter, values []int) int {
	cost := 0
	for i, m := range l {
		distance := values[i] - m.Reading
		if distance < 0 {
			distance = -distance
		}
		cost += m.Weight * distance
	}
	return cost
}

// boundOf returns the bound of prices, and whether they are a proof, by the words of the chapter.
func boundOf(l []count.Meter, prices []int) (int, bool) {
	bound := 0
	for i, m := range l {
		slope := prices[i]
		if i > 0 {
			slope -= prices[m.Up]
		}
		if slope > m.Weight || !hangsOn(l, i) && prices[i] != 0 {
			return 0, false
		}
		bound += prices[i] * m.Out
		if slope >= -m.Weight {
			bound -= slope * m.Reading
		} else {
			bound += m.Weight * m.Reading
		}
	}
	return bound, true
}

// anyTree returns a tree of some counters, whose readings are now and then right.
func anyTree(rnd *rand.Rand, counters, weight, reading, out int) []count.Meter {
	deep := rnd.Intn(3)
	var l []count.Meter
	for i := range counters {
		up := i - 1
		if i > 0 && deep < 2 {
			up = rnd.Intn(i)
		}
		l = append(l, on(up, 1+rnd.Intn(weight), rnd.Intn(reading+1), 0))
	}
	for i := range l {
		if hangsOn(l, i) && rnd.Intn(2) == 0 {
			l[i].Out = rnd.Intn(out + 1)
		}
	}
	return l
}

// rightValues returns values that follow from those of the counters on which none hangs.
func rightValues(l []count.Meter, leaf func(i int) int) []int {
	values := make([]int, len(l))
	for i := len(l) - 1; i >= 0; i-- {
		values[i] += l[i].Out
		if !hangsOn(l, i) {
			values[i] = leaf(i)
		}
		if i > 0 {
			values[l[i].Up] += values[i]
		}
	}
	return values
}

// P8.3: the error of counters, which all functions return first.
func TestCheckMeters(t *testing.T) {
	far := []int{math.MinInt, -1, 1000001, math.MaxInt}
	cases := map[api.Errno][][]count.Meter{
		api.ErrMany: {nil, {}, make([]count.Meter, 17), chain(17), slices.Repeat([]count.Meter{root(1, 1, 0)}, 100)},
		api.OK:      {chain(1), chain(16), {root(100, 1000000, 0)}, {root(1, 0, 1000000), on(0, 100, 1000000, 0)}, {root(1, 0, 0), on(0, 1, 0, 0), on(0, 1, 0, 0), on(1, 1, 0, 0)}},
		api.ErrCount: {
			{{}}, {on(0, 1, 0, 0)}, {on(-2, 1, 0, 0)}, {on(1, 1, 0, 0), on(0, 1, 0, 0)},
			{root(1, 0, 0), root(1, 0, 0)}, {root(1, 0, 0), on(1, 1, 0, 0)}, {root(1, 0, 0), on(2, 1, 0, 0), on(0, 1, 0, 0)},
			{root(1, 0, 1)}, {root(1, 0, 0), on(0, 1, 0, 1)}, {root(1, 0, 0), on(0, 1, 0, 1), on(0, 1, 0, 0)},
			append(chain(16)[:15], on(14, 1, 0, 1)),
		},
	}
	for _, n := range far {
		cases[api.ErrCount] = append(cases[api.ErrCount],
			[]count.Meter{root(1, n, 0)}, []count.Meter{root(1, 0, n)}, []count.Meter{root(1, 0, n), on(0, 1, 0, 0)},
			[]count.Meter{root(1, 0, 0), on(0, 1, n, 0)}, []count.Meter{root(1, 0, 0), on(n, 1, 0, 0)})
	}
	for _, n := range []int{math.MinInt, -1, 0, 101, math.MaxInt} {
		cases[api.ErrCount] = append(cases[api.ErrCount], []count.Meter{root(n, 0, 0)}, []count.Meter{root(1, 0, 0), on(0, n, 0, 0)})
	}
	for want, trees := range cases {
		for _, l := range trees {
			expectCheck(t, l, want)
		}
	}
}

// expectCheck checks the error of counters, and that there is no other result with it.
func expectCheck(t *testing.T, l []count.Meter, want api.Errno) {
	t.Helper()
	if e := count.Check(l); e != want {
		t.Error(l, e, want)
	}
	if want == api.OK {
		return
	}
	for _, numbers := range [][]int{nil, {math.MaxInt}, make([]int, len(l))} {
		n, e1 := count.Cost(l, numbers)
		m, e2 := count.Prove(l, numbers)
		if n != 0 || m != 0 || e1 != want || e2 != want {
			t.Error(l, n, m, e1, e2)
		}
	}
	f, e := count.Adjust(l)
	if f.Values != nil || f.Prices != nil || f.Cost != 0 || e != want {
		t.Error(l, f, e)
	}
	if d, e := count.Doubt(l); d != nil || e != want {
		t.Error(l, d, e)
	}
}

// expectCost checks the cost of values.
func expectCost(t *testing.T, l []count.Meter, values []int, want int, code api.Errno) {
	t.Helper()
	if n, e := count.Cost(l, values); n != want || e != code {
		t.Error(l, values, n, e)
	}
}

// expectBound checks the bound of prices.
func expectBound(t *testing.T, l []count.Meter, prices []int, want int, code api.Errno) {
	t.Helper()
	if n, e := count.Prove(l, prices); n != want || e != code {
		t.Error(l, prices, n, e)
	}
}

// two returns a root with two counters on it: the chapter's example 2.
func two() []count.Meter { return []count.Meter{root(1, 100, 5), on(0, 1, 60, 0), on(0, 1, 40, 0)} }

// P8.3: values, right ones and others.
func TestCost(t *testing.T) {
	expectCost(t, two(), []int{100, 55, 40}, 5, api.OK)
	expectCost(t, two(), []int{5, 0, 0}, 195, api.OK)
	expectCost(t, two(), []int{1000000000, 999999995, 0}, 999999900+999999935+40, api.OK)
	for _, values := range [][]int{nil, {}, {100}, {100, 55}, {100, 55, 40, 0}, {-1, -1}, make([]int, 17)} {
		expectCost(t, two(), values, 0, api.ErrArg)
	}
	for _, values := range [][]int{
		{100, 60, 40}, {99, 55, 40}, {101, 55, 40}, {0, 0, 0}, {4, -1, 0}, {5, 1, -1}, {0, -5, 0}, {-1, -1, -5},
		{1000000001, 999999996, 0}, {1000000006, 1000000001, 0}, {math.MaxInt, math.MaxInt, -5}, {math.MinInt, math.MaxInt, math.MaxInt - 3},
	} {
		expectCost(t, two(), values, 0, api.ErrFalse)
	}
	expectCost(t, []count.Meter{root(100, 1000000, 0)}, []int{1000000000}, 99900000000, api.OK)
	expectCost(t, []count.Meter{root(100, 1000000, 0)}, []int{1000000001}, 0, api.ErrFalse)
	expectCost(t, []count.Meter{root(100, 1000000, 0)}, []int{-1}, 0, api.ErrFalse)
	expectCost(t, []count.Meter{root(2, 7, 0)}, []int{4}, 6, api.OK)
	// A counter has its Out only if others hang on it, and then before them.
	expectCost(t, []count.Meter{root(1, 0, 1), on(0, 1, 0, 2), on(1, 1, 0, 0)}, []int{7, 6, 4}, 17, api.OK)
	expectCost(t, []count.Meter{root(1, 0, 1), on(0, 1, 0, 2), on(1, 1, 0, 0)}, []int{6, 6, 4}, 0, api.ErrFalse)
}

// P8.3: prices, proofs and others.
func TestProve(t *testing.T) {
	l := two()
	for _, c := range []struct {
		prices []int
		want   int
		code   api.Errno
	}{
		{[]int{0, 0, 0}, 0, api.OK}, {[]int{1, 0, 0}, 5, api.OK}, {[]int{-1, 0, 0}, -5, api.OK},
		{nil, 0, api.ErrArg}, {[]int{1}, 0, api.ErrArg}, {[]int{1, 0}, 0, api.ErrArg}, {[]int{1, 0, 0, 0}, 0, api.ErrArg}, {[]int{1000001}, 0, api.ErrArg},
		{[]int{1000001, 0, 0}, 0, api.ErrRange}, {[]int{-1000001, 0, 0}, 0, api.ErrRange}, {[]int{0, 0, 1000001}, 0, api.ErrRange},
		{[]int{math.MinInt, 0, 0}, 0, api.ErrRange}, {[]int{0, 0, math.MaxInt}, 0, api.ErrRange}, {[]int{2, 0, -1000001}, 0, api.ErrRange},
		{[]int{2, 0, 0}, 0, api.ErrFalse}, {[]int{-2, 0, 0}, 0, api.ErrFalse}, {[]int{1, 1, 0}, 0, api.ErrFalse}, {[]int{1, 0, 1}, 0, api.ErrFalse},
		{[]int{0, -1, 0}, 0, api.ErrFalse}, {[]int{1000000, 0, 0}, 0, api.ErrFalse}, {[]int{-1000000, 0, 0}, 0, api.ErrFalse}, {[]int{0, 1000000, -1000000}, 0, api.ErrFalse},
	} {
		expectBound(t, l, c.prices, c.want, c.code)
	}
	// A slope below -Weight counts as -Weight.
	l[0].Weight = 3
	expectBound(t, l, []int{1, 0, 0}, 5, api.OK)
	expectBound(t, l, []int{2, 0, 0}, 10-200+60+40, api.OK)
	expectBound(t, l, []int{3, 0, 0}, 15-300+60+40, api.OK)
	expectBound(t, l, []int{4, 0, 0}, 0, api.ErrFalse)
	l = []count.Meter{root(1, 10, 0), on(0, 100, 20, 7), on(1, 100, 30, 0)}
	expectBound(t, l, []int{-100, -50, 0}, 10-50*20-50*7-50*30, api.OK)
	expectBound(t, l, []int{1, -99, 0}, -10-99*7+100*20-99*30, api.OK)
	expectBound(t, l, []int{1, -100, 0}, -10-100*7+100*20-100*30, api.OK)
	expectBound(t, []count.Meter{root(5, 9, 0)}, []int{0}, 0, api.OK)
	expectBound(t, []count.Meter{root(5, 9, 0)}, []int{1}, 0, api.ErrFalse)
	expectBound(t, []count.Meter{root(5, 9, 0)}, []int{-1}, 0, api.ErrFalse)
}

// P8.3, P8.4: values and prices of any kind.
func TestWords(t *testing.T) {
	rnd := rand.New(rand.NewSource(83))
	proofs := 0
	for range 20000 {
		l := anyTree(rnd, 1+rnd.Intn(16), 100, 1000000, 1000000)
		values := rightValues(l, func(int) int { return rnd.Intn(1000000) })
		expectCost(t, l, values, costOf(l, values), api.OK)
		values[rnd.Intn(len(l))] += rnd.Intn(3) - 1
		if areRight(l, values) {
			expectCost(t, l, values, costOf(l, values), api.OK)
		} else {
			expectCost(t, l, values, 0, api.ErrFalse)
		}
		prices := make([]int, len(l))
		for i := range prices {
			if hangsOn(l, i) || rnd.Intn(50) == 0 {
				prices[i] = rnd.Intn(101) - rnd.Intn(101)
			}
		}
		if bound, is := boundOf(l, prices); is {
			expectBound(t, l, prices, bound, api.OK)
			proofs++
		} else {
			expectBound(t, l, prices, 0, api.ErrFalse)
		}
	}
	if proofs < 1000 {
		t.Error(proofs)
	}
}

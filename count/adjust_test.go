package count_test

import (
	"math/rand"
	"slices"
	"testing"

	"foldhouse/api"
	"foldhouse/count"
)

// adjust adjusts counters, and checks that the proof holds.
func adjust(t *testing.T, l []count.Meter) count.Fit {
	t.Helper()
	f, e := count.Adjust(l)
	if e != api.OK || len(f.Values) != len(l) || len(f.Prices) != len(l) {
		t.Fatal(l, f, e)
	}
	if bound, is := boundOf(l, f.Prices); !is || bound != f.Cost || !areRight(l, f.Values) || costOf(l, f.Values) != f.Cost {
		t.Fatal(l, f, bound, is)
	}
	expectCost(t, l, f.Values, f.Cost, api.OK)
	expectBound(t, l, f.Prices, f.Cost, api.OK)
	var doubted []int
	for i, m := range l {
		if f.Values[i] != m.Reading {
			doubted = append(doubted, i)
		}
	}
	if d, e := count.Doubt(l); !slices.Equal(d, doubted) || e != api.OK {
		t.Fatal(l, f, d, e)
	}
	return f
}

// P8.3: the chapter's examples 2 and 3, and others.
func TestAdjust(t *testing.T) {
	for _, c := range []struct {
		l      []count.Meter
		values []int
		cost   int
	}{
		{two(), []int{100, 55, 40}, 5},
		{[]count.Meter{root(3, 100, 5), on(0, 3, 60, 0), on(0, 1, 40, 0)}, []int{100, 60, 35}, 5},
		{[]count.Meter{root(1, 10, 0), on(0, 1, 12, 0), on(1, 1, 11, 0)}, []int{11, 11, 11}, 2},
		{[]count.Meter{root(100, 1000000, 0)}, []int{1000000}, 0},
		{[]count.Meter{root(1, 0, 0)}, []int{0}, 0},
		// What was taken out is more than a counter read: no value is below 0.
		{[]count.Meter{root(2, 3, 9), on(0, 1, 0, 0)}, []int{9, 0}, 12},
		{[]count.Meter{root(100, 0, 1000000), on(0, 1, 1000000, 0)}, []int{1000000, 0}, 101000000},
		{[]count.Meter{root(1, 0, 1000000), on(0, 100, 1000000, 0)}, []int{2000000, 1000000}, 2000000},
		{[]count.Meter{root(9, 5, 3), on(0, 1, 4, 4), on(0, 1, 2, 0), on(1, 1, 7, 0)}, []int{7, 4, 0, 0}, 18 + 2 + 7},
		// The first ones of several: a root as low as possible, then the other counters in order.
		{[]count.Meter{root(1, 10, 0), on(0, 1, 20, 0)}, []int{10, 10}, 10},
		{[]count.Meter{root(1, 20, 0), on(0, 1, 10, 0)}, []int{10, 10}, 10},
		{[]count.Meter{root(3, 6, 0), on(0, 1, 4, 0), on(0, 1, 4, 0), on(0, 1, 4, 0)}, []int{6, 0, 2, 4}, 6},
		{[]count.Meter{root(3, 6, 0), on(0, 1, 4, 0), on(0, 2, 4, 0), on(0, 1, 4, 0)}, []int{6, 0, 4, 2}, 6},
		{[]count.Meter{root(9, 9, 0), on(0, 1, 1, 0), on(0, 1, 1, 0)}, []int{9, 1, 8}, 7},
		// The counter 3 hangs on 1, and 4 on 2: order is that of the numbers.
		{[]count.Meter{root(9, 8, 0), on(0, 1, 6, 0), on(0, 1, 6, 0), on(2, 1, 6, 0), on(1, 1, 6, 0)}, []int{8, 2, 6, 6, 2}, 8},
	} {
		f := adjust(t, c.l)
		if !slices.Equal(f.Values, c.values) || f.Cost != c.cost {
			t.Error(c.l, f)
		}
	}
}

// least returns the least cost of all right values, and the first values that cost so much, by looking at all of them.
func least(l []count.Meter, most int) (int, []int) {
	var best []int
	var leaves []int
	for i := range l {
		if !hangsOn(l, i) {
			leaves = append(leaves, i)
		}
	}
	leaf := make([]int, len(l))
	for {
		values := rightValues(l, func(i int) int { return leaf[i] })
		if best == nil || costOf(l, values) < costOf(l, best) || costOf(l, values) == costOf(l, best) && slices.Compare(values, best) < 0 {
			best = values
		}
		k := 0
		for k < len(leaves) && leaf[leaves[k]] == most {
			leaf[leaves[k]] = 0
			k++
		}
		if k == len(leaves) {
			return costOf(l, best), best
		}
		leaf[leaves[k]]++
	}
}

// P8.3, P8.4: no right values cost less, and of several the first ones are returned.
func TestLeast(t *testing.T) {
	rnd := rand.New(rand.NewSource(831))
	for range 3000 {
		most := 1 + rnd.Intn(6)
		l := anyTree(rnd, 1+rnd.Intn(6), 1+rnd.Intn(4), most, rnd.Intn(5))
		cost, values := least(l, most+1)
		if f := adjust(t, l); f.Cost != cost || !slices.Equal(f.Values, values) {
			t.Fatal(l, f, cost, values)
		}
	}
}

// leastWithin returns the least cost of right values each of which is from lo to hi, by a table of costs for each counter, or a very large number if there are none.
func leastWithin(l []count.Meter, lo, hi []int, most int) int {
	const none = 1 << 40
	tables := make([][]int, len(l))
	for i := len(l) - 1; i >= 0; i-- {
		table := slices.Repeat([]int{none}, most+1)
		if hangsOn(l, i) {
			table[l[i].Out] = 0
			for j := i + 1; j < len(l); j++ {
				if l[j].Up == i {
					table = joined(table, tables[j])
				}
			}
		} else {
			clear(table)
		}
		for x := range table {
			if x < lo[i] || x > hi[i] {
				table[x] = none
			}
			table[x] = min(none, table[x]+costOf(l[i:i+1], []int{x}))
		}
		tables[i] = table
	}
	return slices.Min(tables[0])
}

// joined returns the least sums of two tables of costs, by the sum of their values.
func joined(a, b []int) []int {
	sums := slices.Repeat([]int{1 << 40}, len(a))
	for x, cost := range a {
		for y, more := range b[:len(a)-x] {
			sums[x+y] = min(sums[x+y], cost+more)
		}
	}
	return sums
}

// P8.3, P8.4: trees of all sizes: no counter can have a lower value, if those before it keep theirs.
func TestFirst(t *testing.T) {
	rnd := rand.New(rand.NewSource(832))
	const most = 150
	for range 60 {
		l := anyTree(rnd, 1+rnd.Intn(16), 1+rnd.Intn(5), 6, 2)
		f := adjust(t, l)
		lo, hi := make([]int, len(l)), slices.Repeat([]int{most}, len(l))
		if n := leastWithin(l, lo, hi, most); n != f.Cost {
			t.Fatal(l, f, n)
		}
		for i, value := range f.Values {
			hi[i] = value - 1
			if n := leastWithin(l, lo, hi, most); n <= f.Cost {
				t.Fatal(l, f, i, n)
			}
			lo[i], hi[i] = value, value
		}
		if n := leastWithin(l, lo, hi, most); n != f.Cost {
			t.Fatal(l, f, n)
		}
	}
}

// P8.3, P8.4: trees with numbers up to their limits: the proofs hold, and values of other trees in proportion are in proportion.
func TestLargeTrees(t *testing.T) {
	rnd := rand.New(rand.NewSource(833))
	for range 5000 {
		adjust(t, anyTree(rnd, 1+rnd.Intn(16), 100, 1000000, 1000000))
		small := anyTree(rnd, 1+rnd.Intn(16), 10, 100, 20)
		large := slices.Clone(small)
		for i := range large {
			large[i].Reading *= 10000
			large[i].Out *= 10000
		}
		f, g := adjust(t, small), adjust(t, large)
		for i, value := range f.Values {
			if g.Values[i] != 10000*value {
				t.Fatal(small, f, g)
			}
		}
		// No proof is worth more: other prices are tried.
		for range 5 {
			prices := slices.Clone(f.Prices)
			for i := range prices {
				if hangsOn(small, i) {
					prices[i] += rnd.Intn(5) - rnd.Intn(5)
				}
			}
			if n, e := count.Prove(small, prices); n > f.Cost && e == api.OK {
				t.Fatal(small, f, prices, n)
			}
		}
	}
}

// P8.3: the largest numbers.
func TestLargest(t *testing.T) {
	l := []count.Meter{root(100, 0, 1000000)}
	for i := 1; i < 16; i++ {
		l = append(l, on(0, 100, 1000000, 0))
	}
	if f := adjust(t, l); f.Values[0] != 1000000 || f.Cost != 1600000000 {
		t.Error(f)
	}
	l[0].Weight, l[1].Weight = 1, 1
	if f := adjust(t, l); f.Values[0] != 15000000 || f.Values[1] != 0 || f.Values[2] != 1000000 || f.Cost != 16000000 {
		t.Error(f)
	}
	c := chain(16)
	for i := range 15 {
		c[i].Weight, c[i].Out, c[i].Reading = 100, 1000000, 0
	}
	c[15].Reading = 1000000
	if f := adjust(t, c); f.Values[0] != 15000000 || f.Values[14] != 1000000 || f.Values[15] != 0 {
		t.Error(f)
	}
}

// P8.4: readings that are right cost nothing, and if some are off, no more than what they are off, weighted.
func TestRightReadings(t *testing.T) {
	rnd := rand.New(rand.NewSource(834))
	for range 2000 {
		l := anyTree(rnd, 1+rnd.Intn(16), 100, 0, 1000)
		values := rightValues(l, func(int) int { return rnd.Intn(1000) })
		for i := range l {
			l[i].Reading = values[i]
		}
		if f := adjust(t, l); f.Cost != 0 || !slices.Equal(f.Values, values) {
			t.Fatal(l, f)
		}
		if d, e := count.Doubt(l); d != nil || e != api.OK {
			t.Fatal(l, d, e)
		}
		for range 1 + rnd.Intn(3) {
			l[rnd.Intn(len(l))].Reading = rnd.Intn(2000)
		}
		if f := adjust(t, l); f.Cost > costOf(l, values) {
			t.Fatal(l, f, values)
		}
	}
}

package count

import (
	"slices"

	"foldhouse/api"
)

// tree has counters at work, each behind the one on which it hangs.
type tree []working

// working is a counter at work.
type working struct {
	Meter
	// branches are the counters that hang on this one, in order.
	branches []int
	// behind is the least cost of all counters behind this one, cost that of this one too, each by the value of this one.
	behind, cost convex
	value, price int
}

// isMeter reports whether the numbers of a counter are allowed.
func isMeter(l []Meter, i int) bool {
	m := l[i]
	if !within(m.Up, min(i-1, 0), i-1) || !within(m.Weight, 1, maxWeight) || !within(m.Reading, 0, api.MaxCopies) {
		return false
	}
	if !slices.ContainsFunc(l, func(m Meter) bool { return m.Up == i }) {
		return m.Out == 0
	}
	return within(m.Out, 0, api.MaxCopies)
}

// plant returns the tree of counters.
func plant(l []Meter) tree {
	t := make(tree, len(l))
	for i, m := range l {
		t[i].Meter = m
		if i > 0 {
			t[m.Up].branches = append(t[m.Up].branches, i)
		}
	}
	return t
}

func (w working) isLeaf() bool { return len(w.branches) == 0 }

// areRight reports whether values, one for each counter, are right.
func (t tree) areRight(values []int) bool {
	for i, w := range t {
		if !within(values[i], 0, MaxValue) {
			return false
		}
		sum := w.Out
		for _, branch := range w.branches {
			sum += values[branch]
		}
		if !w.isLeaf() && values[i] != sum {
			return false
		}
	}
	return true
}

// costOf returns the cost of values.
func (t tree) costOf(values []int) int {
	cost := 0
	for i, w := range t {
		cost += w.Weight * max(values[i]-w.Reading, w.Reading-values[i])
	}
	return cost
}

// slope returns the slope of a counter.
func (t tree) slope(i int, prices []int) int {
	if i == 0 {
		return prices[0]
	}
	return prices[i] - prices[t[i].Up]
}

// areProof reports whether prices, one for each counter, are a proof.
func (t tree) areProof(prices []int) bool {
	for i, w := range t {
		if w.isLeaf() && prices[i] != 0 || t.slope(i, prices) > w.Weight {
			return false
		}
	}
	return true
}

// bound returns the bound of prices.
func (t tree) bound(prices []int) int {
	sum := 0
	for i, w := range t {
		// A slope below -Weight counts as -Weight, as no value falls below 0.
		sum += prices[i]*w.Out - max(t.slope(i, prices), -w.Weight)*w.Reading
	}
	return sum
}

// fit adjusts the counters.
func (t tree) fit() Fit {
	t.grow()
	t[0].value = t[0].cost.first(0)
	var fit Fit
	for i, w := range t {
		if !w.isLeaf() {
			t.setPrice(i)
			t.share(i)
		}
		fit.Values = append(fit.Values, t[i].value)
		fit.Prices = append(fit.Prices, t[i].price)
	}
	fit.Cost = t.costOf(fit.Values)
	return fit
}

// grow finds the least costs of all values of each counter.
func (t tree) grow() {
	var grow func(i int) convex
	grow = func(i int) convex {
		w := &t[i]
		w.behind = convex{least: w.Out}
		if w.isLeaf() {
			w.behind.steps = []step{{slope: 0, length: MaxValue}}
		}
		for _, branch := range w.branches {
			w.behind = w.behind.join(grow(branch))
		}
		w.cost = w.behind.plus(w.Weight, w.Reading)
		return w.cost
	}
	grow(0)
}

// setPrice sets the price of a counter that has a value to the least one of a proof: what is behind the counter rises by at least minus the price from the value on, and the slope is one that the cost of the counter itself has at the value.
func (t tree) setPrice(i int) {
	w := &t[i]
	up := 0
	if i > 0 {
		up = t[w.Up].price
	}
	least := up - w.Weight
	if w.value > w.Reading {
		least = up + w.Weight
	}
	w.price = max(least, -w.behind.rise(w.value))
}

// share gives the branches of a counter that has a price the first values in lexicographic order of least cost. Each branch takes the copies for which its cost rises by less than minus the price; those for which it rises by just that much may go to any branch, so the last ones take them first.
func (t tree) share(i int) {
	w := t[i]
	left, others := w.value-w.Out, 0
	for _, branch := range w.branches {
		others += t[branch].cost.first(1 - w.price)
	}
	for _, branch := range w.branches {
		cost := t[branch].cost
		others -= cost.first(1 - w.price)
		t[branch].value = max(cost.first(-w.price), left-others)
		left -= t[branch].value
	}
}

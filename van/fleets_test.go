package van_test

import (
	"math/rand"
	"slices"

	"foldhouse/van"
)

// example is the fleet of the chapter's example 1.
func example() van.Fleet {
	return van.Fleet{
		Stops: []van.Stop{
			{Load: 100, Ready: 70, Close: 1440, Serve: 2},
			{Load: 100, Close: 1440, Serve: 2},
		},
		Minutes:  [][]int{{0, 10, 20}, {10, 0, 5}, {20, 5, 0}},
		Capacity: 200, Start: 60, Back: 1440,
	}
}

// changed returns the fleet of example 1, changed.
func changed(change func(f *van.Fleet)) van.Fleet {
	f := example()
	change(&f)
	return f
}

// free is a fleet whose stops are open all day, and have nothing to carry.
func free(minutes ...[]int) van.Fleet {
	f := van.Fleet{Minutes: minutes, Back: 1440}
	for range len(minutes) - 1 {
		f.Stops = append(f.Stops, van.Stop{Close: 1440})
	}
	return f
}

// anyFleet returns a fleet with so many stops, whose windows and ways make some tours right.
func anyFleet(rnd *rand.Rand, stops int) van.Fleet {
	wide := 1 + rnd.Intn(30)
	f := van.Fleet{Capacity: rnd.Intn(8 * stops), Start: rnd.Intn(10), Back: 20 + rnd.Intn(20*wide)}
	for range stops {
		open := rnd.Intn(40)
		f.Stops = append(f.Stops, van.Stop{
			Load: rnd.Intn(8), Ready: rnd.Intn(15),
			Open: open, Close: open + 5 + rnd.Intn(6*wide), Serve: rnd.Intn(3),
		})
	}
	far := 1 + rnd.Intn(12)
	for from := range stops + 1 {
		row := make([]int, stops+1)
		for to := range row {
			if to != from {
				row[to] = rnd.Intn(far)
			}
		}
		f.Minutes = append(f.Minutes, row)
	}
	return f
}

func copyOf(f van.Fleet) van.Fleet {
	f.Stops, f.Minutes = slices.Clone(f.Stops), slices.Clone(f.Minutes)
	for i := range f.Minutes {
		f.Minutes[i] = slices.Clone(f.Minutes[i])
	}
	return f
}

// leave returns when the van of a tour leaves, by the words of the chapter.
func leave(f van.Fleet, stops []int) int {
	minute := f.Start
	for _, i := range stops {
		if f.Stops[i].Ready > minute {
			minute = f.Stops[i].Ready
		}
	}
	return minute
}

func load(f van.Fleet, stops []int) int {
	sum := 0
	for _, i := range stops {
		sum += f.Stops[i].Load
	}
	return sum
}

// drive follows a van that leaves at a minute: when it comes to the stops, when it is back, and whether it is in time.
func drive(f van.Fleet, stops []int, minute int) ([]int, int, bool) {
	var comes []int
	right := true
	for k, i := range stops {
		from := 0
		if k > 0 {
			from = stops[k-1] + 1
		}
		minute += f.Minutes[from][i+1]
		comes = append(comes, minute)
		if minute > f.Stops[i].Close {
			right = false
		}
		if minute < f.Stops[i].Open {
			minute = f.Stops[i].Open
		}
		minute += f.Stops[i].Serve
	}
	minute += f.Minutes[stops[len(stops)-1]+1][0]
	return comes, minute, right && minute <= f.Back
}

// isRight reports whether stops are those of a right tour, and when this ends.
func isRight(f van.Fleet, stops []int) (int, bool) {
	_, end, right := drive(f, stops, leave(f, stops))
	return end, right && load(f, stops) <= f.Capacity
}

// orders returns all orders of a list, in lexicographic order if it is sorted.
func orders(l []int) [][]int {
	if len(l) == 0 {
		return [][]int{nil}
	}
	var all [][]int
	for i, n := range l {
		for _, rest := range orders(slices.Delete(slices.Clone(l), i, i+1)) {
			all = append(all, append([]int{n}, rest...))
		}
	}
	return all
}

// least returns the stops and the end of the least right tour of some stops; the end is -1 if there is none.
func least(f van.Fleet, stops []int) ([]int, int) {
	var best []int
	least := -1
	for _, order := range orders(stops) {
		end, right := isRight(f, order)
		if right && (least < 0 || end < least || end == least && slices.Compare(order, best) < 0) {
			best, least = order, end
		}
	}
	return best, least
}

// members returns the stops of a set.
func members(bits int) []int {
	var l []int
	for i := range 10 {
		if bits>>i&1 == 1 {
			l = append(l, i)
		}
	}
	return l
}

// plans calls visit with all lists of right tours that have each of some stops once, in the order of the least stops.
func plans(f van.Fleet, stops []int, begun [][]int, visit func(plan [][]int)) {
	if len(stops) == 0 {
		visit(begun)
		return
	}
	others := stops[1:]
	for bits := range 1 << len(others) {
		tour, rest := []int{stops[0]}, []int(nil)
		for i, n := range others {
			if bits>>i&1 == 1 {
				tour = append(tour, n)
			} else {
				rest = append(rest, n)
			}
		}
		for _, order := range orders(tour) {
			if _, right := isRight(f, order); right {
				plans(f, rest, append(slices.Clone(begun), order), visit)
			}
		}
	}
}

// takes returns how long the tours of a plan take together.
func takes(f van.Fleet, plan [][]int) int {
	sum := 0
	for _, stops := range plan {
		end, _ := isRight(f, stops)
		sum += end - leave(f, stops)
	}
	return sum
}

func line(plan [][]int) []int {
	var l []int
	for _, stops := range plan {
		l = append(append(l, stops...), -1)
	}
	return l
}

func isLess(f van.Fleet, a, b [][]int) bool {
	if len(a) != len(b) {
		return len(a) < len(b)
	}
	if takes(f, a) != takes(f, b) {
		return takes(f, a) < takes(f, b)
	}
	return slices.Compare(line(a), line(b)) < 0
}

// leastPlan returns the least one of all plans, nil if there is none.
func leastPlan(f van.Fleet) [][]int {
	var best [][]int
	plans(f, members(1<<len(f.Stops)-1), nil, func(plan [][]int) {
		if best == nil || isLess(f, plan, best) {
			best = plan
		}
	})
	return best
}

// enough reports whether the stops from one on can be put into so many sets, of which those that were begun have some already, so that each set has a number.
func enough(ends []int, sets []int, vans, stop, stops int) bool {
	if stop == stops {
		return !slices.ContainsFunc(sets, func(s int) bool { return ends[s] < 0 })
	}
	for i := range sets {
		with := slices.Clone(sets)
		with[i] |= 1 << stop
		if enough(ends, with, vans, stop+1, stops) {
			return true
		}
	}
	return len(sets) < vans && enough(ends, append(slices.Clone(sets), 1<<stop), vans, stop+1, stops)
}

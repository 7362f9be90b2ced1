package reel

import (
	"iter"
	"math"
	"slices"
)

// batch returns what an order costs with what it keeps, if it is for the weeks up to another one, and whether there is room for it.
func (s Supply) batch(first, end int) (int, bool) {
	cost, kept := s.Order[first], 0
	for week := first + 1; week < end; week++ {
		kept += s.Need[week]
		cost += s.Keep * (week - first) * s.Need[week]
	}
	// No more is kept from a later week to the next one.
	return cost, kept <= s.Room
}

// batches yields the weeks up to which an order can be for which there is room, with its costs. The end of all weeks comes first, as a schedule that ends is less than one that goes on.
func (s Supply) batches(first int) iter.Seq2[int, int] {
	return func(yield func(end, cost int) bool) {
		weeks := len(s.Need)
		if cost, right := s.batch(first, weeks); right && !yield(weeks, cost) {
			return
		}
		for end := first + 1; end < weeks; end++ {
			if cost, right := s.batch(first, end); right && !yield(end, cost) {
				return
			}
		}
	}
}

// cheapest returns the lesser one of the schedules with the least cost, and this cost. It goes from the last week to the first, as the weeks that follow decide which schedule is less, and not those before.
func (s Supply) cheapest() ([]int, int) {
	var next, rest [MaxWeeks + 1]int
	for week := len(s.Need) - 1; week >= 0; week-- {
		rest[week] = math.MaxInt
		for end, cost := range s.batches(week) {
			if sum := cost + rest[end]; sum < rest[week] {
				next[week], rest[week] = end, sum
			}
		}
	}
	var weeks []int
	for week := 0; week < len(s.Need); week = next[week] {
		weeks = append(weeks, week)
	}
	return weeks, rest[0]
}

// prices returns the least cost of the weeks before each week.
func (s Supply) prices() []int {
	prices := slices.Repeat([]int{math.MaxInt}, len(s.Need)+1)
	prices[0] = 0
	for week := range s.Need {
		for end, cost := range s.batches(week) {
			prices[end] = min(prices[end], prices[week]+cost)
		}
	}
	return prices
}

// isSchedule reports whether a list has increasing weeks, of which the first one is 0.
func (s Supply) isSchedule(weeks []int) bool {
	if len(weeks) == 0 || weeks[0] != 0 {
		return false
	}
	for i, week := range weeks[1:] {
		if !within(week, weeks[i]+1, len(s.Need)-1) {
			return false
		}
	}
	return true
}

// arePrices reports whether a list has the length and the numbers of prices.
func (s Supply) arePrices(prices []int) bool {
	if len(prices) != len(s.Need)+1 || prices[0] != 0 {
		return false
	}
	return !slices.ContainsFunc(prices, func(n int) bool { return !within(n, -maxPrice, maxPrice) })
}

package books_test

import (
	"math"
	"math/rand"
	"slices"
	"testing"

	"foldhouse/api"
	"foldhouse/books"
)

func expectShare(t *testing.T, total int, weights []int, want ...int) {
	t.Helper()
	if l, e := books.Share(total, weights); !slices.Equal(l, want) || e != api.OK {
		t.Error(total, weights, l, e, want)
	}
}

func expectNoShare(t *testing.T, total int, weights []int, want api.Errno) {
	t.Helper()
	if l, e := books.Share(total, weights); l != nil || e != want {
		t.Error(total, weights, l, e, want)
	}
}

// P13.4: shares that are worked out by hand.
func TestShares(t *testing.T) {
	expectShare(t, 100, []int{1, 1, 1}, 34, 33, 33)
	expectShare(t, 10, []int{1, 3, 0}, 3, 7, 0)
	expectShare(t, 0, []int{1, 3, 0}, 0, 0, 0)
	expectShare(t, 7, []int{0, 5}, 0, 7)
	expectShare(t, 7, []int{5}, 7)
	expectShare(t, 1, []int{1, 2, 2}, 0, 1, 0)
	expectShare(t, 2, []int{1, 1, 1, 1, 1}, 1, 1, 0, 0, 0)
	expectShare(t, 5, []int{3, 3, 4}, 2, 1, 2)
	expectShare(t, 10, []int{10, 26, 28, 36}, 1, 3, 3, 3)
	expectShare(t, 3, []int{0, 1, 0, 1}, 0, 2, 0, 1)
	expectShare(t, 1000000000000, []int{1000000, 0, 999999}, 500000250000, 0, 499999750000)
	expectShare(t, books.MaxAmount, slices.Repeat([]int{1000000}, 100), slices.Repeat([]int{10000000000}, 100)...)
	expectShare(t, books.MaxAmount, append(slices.Repeat([]int{0}, 99), 1), append(slices.Repeat([]int{0}, 99), books.MaxAmount)...)
	expectShare(t, 50, slices.Repeat([]int{1}, books.MaxShares), append(slices.Repeat([]int{1}, 50), slices.Repeat([]int{0}, 50)...)...)
}

// P13.4: errors of Share, in their order.
func TestErrorsOfShare(t *testing.T) {
	for _, l := range [][]int{nil, {}, make([]int, 101), slices.Repeat([]int{-1}, 101), slices.Repeat([]int{1}, 200)} {
		expectNoShare(t, 5, l, api.ErrMany)
		expectNoShare(t, -1, l, api.ErrMany)
	}
	for _, total := range []int{math.MinInt, -1, 1000000000001, math.MaxInt} {
		expectNoShare(t, total, []int{1, 2}, api.ErrRange)
		expectNoShare(t, total, []int{0, 0}, api.ErrRange)
	}
	for _, w := range []int{math.MinInt, -1, 1000001, math.MaxInt} {
		expectNoShare(t, 5, []int{w}, api.ErrRange)
		expectNoShare(t, 5, []int{w, 3}, api.ErrRange)
		expectNoShare(t, 5, []int{3, -w, w}, api.ErrRange)
	}
	expectNoShare(t, 5, []int{0}, api.ErrNone)
	expectNoShare(t, 0, []int{0, 0, 0}, api.ErrNone)
	expectNoShare(t, 1000000000000, make([]int, 100), api.ErrNone)
	if books.MaxShares != 100 || books.MaxAmount != 1000000000000 {
		t.Error(books.MaxShares, books.MaxAmount)
	}
}

// sharesOf returns shares by the words of the chapter: one by one to the first of which the most was cut off.
func sharesOf(total int, weights []int) []int {
	all := 0
	for _, w := range weights {
		all += w
	}
	shares, cut := make([]int, len(weights)), make([]int, len(weights))
	left := total
	for i, w := range weights {
		shares[i] = total * w / all
		cut[i] = total*w - shares[i]*all
		left -= shares[i]
	}
	for ; left > 0; left-- {
		most := slices.Index(cut, slices.Max(cut))
		shares[most]++
		cut[most] = -1
	}
	return shares
}

// P13.4, P13.5: shares add up, differ by less than 1 from what is due, and are not less with more weight.
func TestAnyShares(t *testing.T) {
	rnd := rand.New(rand.NewSource(6))
	for range 5000 {
		total := rnd.Intn([]int{5, 100, 1000000, 1000000000000}[rnd.Intn(4)] + 1)
		most := anyOf(rnd, []int{1, 2, 5, 1000, 1000000})
		weights := make([]int, 1+rnd.Intn(anyOf(rnd, []int{4, 12, 100})))
		all := 0
		for i := range weights {
			weights[i] = rnd.Intn(most + 1)
			all += weights[i]
		}
		if all == 0 {
			expectNoShare(t, total, weights, api.ErrNone)
			continue
		}
		shares, e := books.Share(total, weights)
		if e != api.OK || !slices.Equal(shares, sharesOf(total, weights)) {
			t.Fatal(total, weights, shares, e)
		}
		sum := 0
		for i, n := range shares {
			sum += n
			if part := total * weights[i] / all; n < part || n > part+1 || n == part+1 && total*weights[i]%all == 0 {
				t.Fatal(total, weights, shares, i)
			}
			for k, m := range shares {
				if weights[i] > weights[k] && n < m {
					t.Fatal(total, weights, shares, i, k)
				}
			}
		}
		if sum != total {
			t.Fatal(total, weights, shares)
		}
	}
}

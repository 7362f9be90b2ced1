package register_test

import (
	"math"
	"math/rand"
	"slices"
	"testing"

	"foldhouse/api"
	"foldhouse/register"
)

const lost = register.Lost

// numbers returns so many numbers, from a first one on, each by a step above the one before.
func numbers(n, first, step int) []int {
	var l []int
	for i := range n {
		l = append(l, first+i*step)
	}
	return l
}

// moved returns positions that are shifted.
func moved(l []int, shift int) []int {
	var out []int
	for _, n := range l {
		out = append(out, n+shift)
	}
	return out
}

// match returns a fit, and fails if there is an error.
func match(t *testing.T, pattern []int, window int, seen []int) register.Fit {
	t.Helper()
	fit, code := register.Match(pattern, window, seen)
	if code != api.OK {
		t.Fatal(pattern, window, seen, code)
	}
	return fit
}

// expectFit checks a best shift, and what it finds.
func expectFit(t *testing.T, pattern []int, window int, seen []int, shift int, found ...int) {
	t.Helper()
	count := 0
	for _, place := range found {
		if place != lost {
			count++
		}
	}
	if fit := match(t, pattern, window, seen); fit.Shift != shift || fit.Count != count || !slices.Equal(fit.Found, found) {
		t.Error(pattern, window, seen, fit)
	}
}

// reference returns what a shift finds, by the words of the chapter.
func reference(pattern []int, window int, seen []int, shift int) (int, []int) {
	count := 0
	var found []int
	for _, p := range pattern {
		place := lost
		for _, s := range slices.Backward(seen) {
			if p+shift-window <= s && s <= p+shift+window {
				place = s
			}
		}
		if place != lost {
			count++
		}
		found = append(found, place)
	}
	return count, found
}

// P5.3: the chapter's example 3.
func TestMatchExample(t *testing.T) {
	seen := []int{49, 151, 200, 351}
	expectFit(t, []int{0, 100, 300}, 2, seen, 49, 49, 151, 351)
	if n, found := reference([]int{0, 100, 300}, 2, seen, 51); n != 3 || !slices.Equal(found, []int{49, 151, 351}) {
		t.Error(n, found)
	}
}

// P5.3: the shift that finds most marks is the best one.
func TestMatchMost(t *testing.T) {
	expectFit(t, []int{0, 100, 300}, 0, []int{0, 50, 150, 350}, 50, 50, 150, 350)
	expectFit(t, []int{0, 100, 300}, 0, []int{0, 50, 150}, 50, 50, 150, lost)
	expectFit(t, []int{0, 100, 300}, 0, []int{60, 260}, -40, lost, 60, 260)
	expectFit(t, []int{0, 100, 300}, 2, []int{0, 100, 300}, 0, 0, 100, 300)
}

// P5.3: of several shifts that with the least |s| is the best one, and of two the positive one.
func TestMatchLeast(t *testing.T) {
	expectFit(t, []int{0, 100}, 2, []int{10, 110}, 8, 10, 110)
	expectFit(t, []int{0, 100}, 2, []int{-10, 90}, -8, -10, 90)
	expectFit(t, []int{1000, 2000}, 0, []int{990, 1010, 1990, 2010}, 10, 1010, 2010)
	expectFit(t, []int{1000, 2000}, 0, []int{990, 1011, 1990, 2011}, -10, 990, 1990)
	expectFit(t, []int{1000, 2000}, 0, []int{989, 1010, 1989, 2010}, 10, 1010, 2010)
	expectFit(t, []int{0, 100, 300}, 2, []int{-5, 95, 500}, -3, -5, 95, lost)
	expectFit(t, []int{0, 100}, 2, []int{2, 98}, 0, 2, 98)
}

// P5.3: of the positions in the window of a mark the least one is found.
func TestMatchFirstSeen(t *testing.T) {
	expectFit(t, []int{0, 100}, 2, []int{-2, -1, 0, 1, 2, 100}, 0, -2, 100)
	expectFit(t, []int{0, 100}, 2, []int{-3, -1, 0, 99, 100, 103}, 0, -1, 99)
	expectFit(t, []int{0, 100, 300}, 2, []int{98, 102}, 0, lost, 98, lost)
}

// P5.3: if nothing is found, the shift is 0.
func TestMatchNothing(t *testing.T) {
	for _, seen := range [][]int{nil, {}, {-2003, 50000}, {2303}, {-100000, 200000}} {
		expectFit(t, []int{0, 100, 300}, 2, seen, 0, lost, lost, lost)
	}
}

// P5.3: shifts are from -2000 to 2000.
func TestMatchFar(t *testing.T) {
	expectFit(t, []int{0, 100}, 0, []int{2000, 2100}, 2000, 2000, 2100)
	expectFit(t, []int{0, 100}, 0, []int{-2000, -1900}, -2000, -2000, -1900)
	expectFit(t, []int{0, 100}, 0, []int{2001, 2101}, 1901, lost, 2001)
	expectFit(t, []int{0, 100}, 0, []int{-2001, -1901}, -1901, -1901, lost)
	expectFit(t, []int{0, 100}, 2, []int{2002, 2102}, 2000, 2002, 2102)
	expectFit(t, []int{0, 100}, 2, []int{2103}, 0, lost, lost)
}

// P5.3: the greatest numbers that are allowed.
func TestMatchLimits(t *testing.T) {
	expectFit(t, []int{0, 20001}, 5000, []int{7000, 25002}, 2000, 7000, 25002)
	expectFit(t, []int{0, 100000}, 5000, []int{-100000, 200000}, 0, lost, lost)
	expectFit(t, []int{0, 1}, 0, []int{0, 1}, 0, 0, 1)
	expectFit(t, []int{7, 8}, 0, []int{8}, 0, lost, 8)
	pattern := numbers(12, 0, 20)
	expectFit(t, pattern, 4, moved(pattern, -1003), -999, moved(pattern, -1003)...)
	match(t, pattern, 4, numbers(40, -100000, 7692))
}

// P5.3: what Match refuses, and in which order.
func TestMatchErrors(t *testing.T) {
	refuse := func(pattern []int, window int, seen []int, want api.Errno) {
		t.Helper()
		if fit, code := register.Match(pattern, window, seen); fit.Shift != 0 || fit.Count != 0 || fit.Found != nil || code != want {
			t.Error(pattern, window, seen, fit, code)
		}
	}
	wrong := []int{2, 1}
	for _, pattern := range [][]int{nil, {0}, {-1}, numbers(13, 0, 100), numbers(13, 0, -1)} {
		refuse(pattern, 2, nil, api.ErrMany)
		refuse(pattern, -1, wrong, api.ErrMany)
	}
	refuse([]int{0, 100}, 2, numbers(41, 0, 5), api.ErrMany)
	refuse([]int{100, 0}, -1, numbers(41, 0, -5), api.ErrMany)
	for _, pattern := range [][]int{{5, 5}, {6, 5}, {-1, 100}, {math.MinInt, 0}, {0, 100001}, {0, math.MaxInt}, {math.MinInt, math.MaxInt}, {0, 8}, {0, 9, 17}, {0, 9, 8}} {
		refuse(pattern, 2, nil, api.ErrRange)
		refuse(pattern, 2, wrong, api.ErrRange)
	}
	for _, window := range []int{-1, 5001, math.MinInt, math.MaxInt, math.MinInt / 4, math.MaxInt/2 + 1} {
		refuse([]int{0, 100000}, window, wrong, api.ErrRange)
	}
	refuse([]int{0, 20000}, 5000, nil, api.ErrRange)
	for _, seen := range [][]int{wrong, {1, 1}, {0, 5, 4}, {-100001}, {math.MinInt}, {0, 200001}, {math.MaxInt}, {math.MaxInt, math.MinInt}} {
		refuse([]int{0, 100}, 2, seen, api.ErrOrder)
	}
}

// anyPattern returns a pattern of marks that are a little more than 4 windows apart, or somewhat farther.
func anyPattern(rnd *rand.Rand, window int) []int {
	place := rnd.Intn(50)
	var pattern []int
	for range 2 + rnd.Intn(11) {
		pattern = append(pattern, place)
		place += 4*window + 1 + rnd.Intn(3)*rnd.Intn(300)
	}
	return pattern
}

// anySeen returns what may have been seen of a pattern, with marks that are off, marks that are missing, and other positions.
func anySeen(rnd *rand.Rand, pattern []int, window int) []int {
	var seen []int
	shift := rnd.Intn(4201) - 2100
	for _, p := range pattern {
		if rnd.Intn(4) > 0 {
			seen = append(seen, p+shift+rnd.Intn(2*window+3)-window-1)
		}
	}
	for range rnd.Intn(12) {
		seen = append(seen, rnd.Intn(8000)-3000)
	}
	slices.Sort(seen)
	return slices.Compact(seen)
}

// P5.3, P5.5: the best shift is the best one of all that there are, and finds as many marks as any.
func TestMatchAllShifts(t *testing.T) {
	rnd := rand.New(rand.NewSource(4))
	for range 150 {
		window := rnd.Intn(30)
		pattern := anyPattern(rnd, window)
		seen := anySeen(rnd, pattern, window)
		best, most := 0, -1
		for s := -2000; s <= 2000; s++ {
			n, _ := reference(pattern, window, seen, s)
			if n > most || n == most && (abs(s) < abs(best) || s == -best && s > 0) {
				best, most = s, n
			}
		}
		_, found := reference(pattern, window, seen, best)
		expectFit(t, pattern, window, seen, best, found...)
	}
}

// P5.5: at least as many marks are found as were seen within a window of their true places.
func TestMatchFindsWhatWasSeen(t *testing.T) {
	rnd := rand.New(rand.NewSource(5))
	for range 1000 {
		window := rnd.Intn(100)
		pattern := anyPattern(rnd, window)
		shift := rnd.Intn(4001) - 2000
		marks := 0
		var seen []int
		for _, p := range pattern {
			if rnd.Intn(3) > 0 {
				seen = append(seen, p+shift+rnd.Intn(2*window+1)-window)
				marks++
			}
		}
		for range rnd.Intn(5) {
			seen = append(seen, rnd.Intn(200000)-100000)
		}
		slices.Sort(seen)
		if fit := match(t, pattern, window, slices.Compact(seen)); fit.Count < marks {
			t.Error(pattern, window, seen, fit)
		}
	}
}

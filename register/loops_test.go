package register_test

import (
	"math"
	"math/rand"
	"testing"

	"foldhouse/api"
	"foldhouse/register"
)

// example returns the loop of the chapter's example 1.
func example() register.Loop { return register.Loop{Dead: 2, Noise: 3, Blur: 1, Step: 10} }

// stiff returns a loop whose Step is its Noise, so that it does not settle from afar.
func stiff() register.Loop { return register.Loop{Noise: 5, Step: 5} }

// wrongLoops returns loops that are not allowed.
func wrongLoops() []register.Loop {
	return []register.Loop{
		{}, {Step: -1}, {Step: math.MinInt}, {Step: 10001}, {Step: math.MaxInt},
		{Dead: -1, Step: 1}, {Dead: math.MinInt, Step: 1}, {Dead: 21, Step: 1}, {Dead: math.MaxInt, Step: 1},
		{Noise: -1, Step: 1}, {Noise: -5, Blur: 3, Step: 1}, {Noise: 1001, Step: 10000}, {Noise: math.MaxInt, Step: 10000}, {Noise: math.MinInt, Step: 10000},
		{Blur: -1, Step: 1}, {Noise: 5, Blur: -1, Step: 5}, {Blur: 1001, Step: 10000}, {Blur: math.MaxInt, Step: 10000}, {Blur: math.MinInt, Step: 10000},
		{Noise: 1, Step: 0}, {Noise: 2, Step: 1}, {Blur: 1, Step: 1}, {Noise: 3, Blur: 2, Step: 6}, {Noise: 1000, Blur: 1000, Step: 2999},
	}
}

// anyLoop returns an allowed loop, whose numbers are often the least or the greatest ones.
func anyLoop(rnd *rand.Rand) register.Loop {
	pick := func(lo, hi int) int {
		return []int{lo, hi, min(lo+1, hi), min(lo+rnd.Intn(20), hi), lo + rnd.Intn(hi-lo+1)}[rnd.Intn(5)]
	}
	l := register.Loop{Dead: pick(0, 20), Noise: pick(0, 1000), Blur: pick(0, 1000)}
	l.Step = pick(max(1, l.Noise+2*l.Blur), 10000)
	return l
}

func abs(n int) int { return max(n, -n) }

// P5.1: which loops are allowed.
func TestCheck(t *testing.T) {
	for _, l := range []register.Loop{
		{Step: 1}, {Dead: 20, Step: 1}, {Step: 10000}, {Noise: 1, Step: 1}, {Noise: 3, Blur: 2, Step: 7}, {Blur: 1, Step: 2},
		{Noise: 1000, Step: 1000}, {Blur: 1000, Step: 2000}, {Dead: 20, Noise: 1000, Blur: 1000, Step: 3000}, {Noise: 1000, Blur: 1000, Step: 10000}, example(), stiff(),
	} {
		if code := register.Check(l); code != api.OK {
			t.Error(l, code)
		}
	}
	for _, l := range wrongLoops() {
		if code := register.Check(l); code != api.ErrRegister {
			t.Error(l, code)
		}
	}
}

// P5.1: the bound.
func TestBound(t *testing.T) {
	for l, want := range map[register.Loop]int{
		example(): 10, stiff(): 5, {Step: 1}: 0, {Dead: 20, Step: 1}: 0, {Dead: 3, Noise: 7, Step: 9}: 28, {Dead: 3, Blur: 4, Step: 9}: 4,
		{Dead: 20, Noise: 1000, Blur: 1000, Step: 3000}: 22000,
	} {
		if n, code := register.Bound(l); n != want || code != api.OK {
			t.Error(l, n, code)
		}
	}
	for _, l := range wrongLoops() {
		if n, code := register.Bound(l); n != 0 || code != api.ErrRegister {
			t.Error(l, n, code)
		}
	}
}

// expectSettle checks a settling time, from an error and from its opposite.
func expectSettle(t *testing.T, l register.Loop, e, want int, code api.Errno) {
	t.Helper()
	for _, from := range []int{e, -e} {
		if n, got := register.Settle(l, from); n != want || got != code {
			t.Error(l, from, n, got)
		}
	}
}

// P5.1: settling times; the chapter's example 1 is among them.
func TestSettle(t *testing.T) {
	for e, want := range map[int]int{25: 6, 0: 3, 8: 3, 9: 3, 10: 4, 16: 4, 17: 5, 23: 5, 24: 6, 1000000: 142859} {
		expectSettle(t, example(), e, want, api.OK)
	}
	expectSettle(t, register.Loop{Step: 1}, 1000000, 1000000, api.OK)
	expectSettle(t, register.Loop{Dead: 20, Step: 1}, 1, 21, api.OK)
	expectSettle(t, register.Loop{Dead: 20, Noise: 4, Step: 5}, 1000000, 21+999995, api.OK)
}

// P5.1: a loop whose Step is its Noise settles only from an error that is little enough already.
func TestSettleNever(t *testing.T) {
	for _, e := range []int{0, 4, 5} {
		expectSettle(t, stiff(), e, 1, api.OK)
	}
	for _, e := range []int{6, 1000000} {
		expectSettle(t, stiff(), e, 0, api.ErrNone)
	}
}

// P5.1: errors from which there is no settling time, and their order.
func TestSettleErrors(t *testing.T) {
	for _, e := range []int{1000001, math.MaxInt, math.MinInt, math.MinInt + 1} {
		expectSettle(t, example(), e, 0, api.ErrRange)
		expectSettle(t, stiff(), e, 0, api.ErrRange)
		for _, l := range wrongLoops() {
			expectSettle(t, l, e, 0, api.ErrRegister)
		}
	}
	for _, l := range wrongLoops() {
		expectSettle(t, l, 0, 0, api.ErrRegister)
	}
}

// P5.1: settling times, counted one by one.
func TestSettleCounted(t *testing.T) {
	rnd := rand.New(rand.NewSource(1))
	for range 2000 {
		l, e := anyLoop(rnd), rnd.Intn(60001)
		if l.Step == l.Noise {
			continue
		}
		want := l.Dead + 1
		for left := e; left > l.Step-l.Blur; left -= l.Step - l.Noise {
			want++
		}
		expectSettle(t, l, e, want, api.OK)
	}
}

package register_test

import (
	"math"
	"math/rand"
	"reflect"
	"slices"
	"testing"

	"foldhouse/api"
	"foldhouse/register"
)

// R5: a desk that New did not return does nothing.
func TestNoDesk(t *testing.T) {
	other := *three(t)
	for _, d := range []*register.Desk{nil, {}, &other} {
		for _, seen := range [][]int{nil, {0, 100, 300}, {5, 5}, numbers(41, 0, 1)} {
			expectRead(t, d, seen, register.Copy{}, api.ErrNil)
		}
		if l, code := d.Copies(); l != nil || code != api.ErrNil {
			t.Error(l, code)
		}
		if n, code := d.Waste(); n != 0 || code != api.ErrNil {
			t.Error(n, code)
		}
	}
}

// R3: nil lists and empty lists are the same.
func TestEmpty(t *testing.T) {
	for _, l := range [][]int{nil, {}} {
		if moments, code := register.Play(example(), 0, l, []int{}); len(moments) != 0 || code != api.OK {
			t.Error(moments, code)
		}
		if noise, code := register.Beat(example(), 0, l); noise != nil || code != api.ErrArg {
			t.Error(noise, code)
		}
		expectFit(t, []int{0, 100}, 2, l, 0, lost, lost)
		expectRead(t, three(t), l, none(), api.ErrNone)
		if d, code := register.New(l, nil, 0, 0); d != nil || code != api.ErrMany {
			t.Error(code)
		}
	}
	for _, l := range [][]register.Loop{nil, {}} {
		if d, code := register.New([]int{0, 100}, l, 0, 0); d != nil || code != api.ErrArg {
			t.Error(code)
		}
	}
}

// R4: arguments are not changed, and a list is not kept.
func TestArguments(t *testing.T) {
	noise, blur, moves := []int{3, -3, 2}, []int{-1, 1, 0}, []int{4, -5, 6}
	play(t, example(), 7, noise, blur)
	register.Beat(example(), 7, moves)
	if !slices.Equal(noise, []int{3, -3, 2}) || !slices.Equal(blur, []int{-1, 1, 0}) || !slices.Equal(moves, []int{4, -5, 6}) {
		t.Error(noise, blur, moves)
	}
	pattern, loops, seen := []int{0, 100, 300}, []register.Loop{{Dead: 1, Step: 10}, {Step: 5}}, []int{0, 104, 293}
	match(t, pattern, 20, seen)
	d := newDesk(t, pattern, loops, 20, 6)
	if !slices.Equal(pattern, []int{0, 100, 300}) || !slices.Equal(loops, []register.Loop{{Dead: 1, Step: 10}, {Step: 5}}) {
		t.Error(pattern, loops)
	}
	pattern[0], pattern[1], loops[0], loops[1] = 99, 98, register.Loop{}, register.Loop{}
	expectRead(t, d, seen, register.Copy{Errors: []int{4, -7}, Moves: []int{-4, 5}}, api.OK)
	if !slices.Equal(seen, []int{0, 104, 293}) {
		t.Error(seen)
	}
}

// R4: results share no memory with each other, or with a desk.
func TestResults(t *testing.T) {
	noise, blur, _ := register.Worst(example())
	clear(noise[:cap(noise)])
	if !slices.Equal(blur, []int{-1, 0, 0, 0}) {
		t.Error(blur)
	}
	d := three(t)
	want := register.Copy{Errors: []int{4, -7}, Moves: []int{-4, 5}}
	spoil := func(c register.Copy) {
		errors := c.Errors[:cap(c.Errors)]
		for i := range errors {
			errors[i] = 77
		}
		for i := range c.Moves {
			c.Moves[i] = 88
		}
	}
	for range 2 {
		c, code := d.Read([]int{0, 104, 293})
		if code != api.OK || !slices.Equal(c.Errors, want.Errors) {
			t.Fatal(c, code)
		}
		spoil(c)
		for range 2 {
			l, code := d.Copies()
			if code != api.OK || !reflect.DeepEqual(l[0], want) {
				t.Fatal(l, code)
			}
			for _, c := range l {
				spoil(c)
			}
			l[0] = register.Copy{}
		}
	}
}

// P5.4: desks do not know of each other.
func TestTwoDesks(t *testing.T) {
	one, other := three(t), three(t)
	first := register.Copy{Errors: []int{8, 0}, Moves: []int{-8, 0}}
	expectRead(t, one, []int{0, 108, 300}, first, api.OK)
	expectRead(t, other, []int{0, 108, 300}, first, api.OK)
	expectCopies(t, one, 1, 1)
	expectCopies(t, other, 1, 1)
}

// wild returns a number that is mostly near a limit.
func wild(rnd *rand.Rand) int {
	limits := []int{0, 0, 1, 2, 12, 20, 40, 1000, 2000, 5000, 10000, 100000, 200000, 1000000, 1000000000, math.MaxInt, math.MinInt, math.MaxInt / 4}
	return limits[rnd.Intn(len(limits))]*(1-2*rnd.Intn(2)) + rnd.Intn(3) - 1
}

// wildList returns a list of such numbers, which is now and then in order.
func wildList(rnd *rand.Rand) []int {
	var l []int
	for range rnd.Intn(1+rnd.Intn(45)) * rnd.Intn(2) {
		l = append(l, wild(rnd))
	}
	if rnd.Intn(2) == 0 {
		slices.Sort(l)
		l = slices.Compact(l)
	}
	return l
}

// P8: no function panics, and with an error there is no other result.
func TestWildArguments(t *testing.T) {
	rnd := rand.New(rand.NewSource(11))
	for range 20000 {
		l := anyLoop(rnd)
		if rnd.Intn(3) == 0 {
			l = register.Loop{Dead: wild(rnd), Noise: wild(rnd), Blur: wild(rnd), Step: wild(rnd)}
		}
		e, a, b := wild(rnd), wildList(rnd), wildList(rnd)
		bound, code := register.Bound(l)
		expectNothing(t, code, bound == 0)
		time, code := register.Settle(l, e)
		expectNothing(t, code, time == 0)
		moments, code := register.Play(l, e, a, b)
		expectNothing(t, code, moments == nil)
		noise, blur, code := register.Worst(l)
		expectNothing(t, code, noise == nil && blur == nil)
		noise, code = register.Beat(l, e, a)
		expectNothing(t, code, noise == nil)
		window := max(0, wild(rnd)) % 5002
		fit, code := register.Match(a, window, b)
		expectNothing(t, code, fit.Found == nil && fit.Shift == 0 && fit.Count == 0)
		d, code := register.New(a, slices.Repeat([]register.Loop{l}, max(1, len(a))-1), window, e)
		expectNothing(t, code, d == nil)
		d.Read(b)
	}
}

// expectNothing checks that with an error there is no other result.
func expectNothing(t *testing.T, code api.Errno, nothing bool) {
	t.Helper()
	if code != api.OK && !nothing {
		t.Error(code)
	}
}

package fold_test

import (
	"math"
	"math/rand"
	"slices"
	"testing"

	"foldhouse/api"
	"foldhouse/fold"
)

// P1.4: the examples of the chapter, and stacks whose topmost ribbon has one half.
func TestGangedExamples(t *testing.T) {
	four := []fold.Ribbon{{Width: 2}, {Col: 2, Width: 2}}
	narrow := []fold.Ribbon{{Width: 1}, {Col: 1, Width: 1, Left: true}}
	three := func(left, turned bool) []fold.Ribbon {
		return []fold.Ribbon{{Width: 2, Turned: turned}, {Web: 1, Width: 1, Left: left}}
	}
	for i, c := range []struct {
		r    fold.Run
		want []fold.Place
	}{
		{makeRun(1, []int{2}, []fold.Ribbon{{Width: 2}}, []int{0}), []fold.Place{{Index: 1}}},
		{makeRun(1, []int{2}, []fold.Ribbon{{Width: 2, Turned: true}}, []int{0}), []fold.Place{{Index: 1}}},
		{makeRun(1, []int{4}, four, []int{0, 1}), []fold.Place{{Index: 3}}},
		{makeRun(1, []int{4}, four, []int{0}, []int{1}), []fold.Place{{Index: 1}, {Section: 1, Index: 1}}},
		{makeRun(1, []int{2, 1}, three(false, false), []int{0, 1}), nil},
		{makeRun(1, []int{2, 1}, three(true, false), []int{0, 1}), nil},
		{makeRun(1, []int{2, 1}, three(false, true), []int{1, 0}), []fold.Place{{Index: 3}}},
		{makeRun(1, []int{2, 1}, three(true, true), []int{1, 0}), []fold.Place{{Index: 1}}},
		{makeRun(1, []int{2}, narrow, []int{0, 1}), nil},
		{makeRun(1, []int{2}, []fold.Ribbon{{Width: 1, Left: true}, {Col: 1, Width: 1, Turned: true}}, []int{0, 1}), nil},
		{makeRun(2, []int{2}, []fold.Ribbon{{Width: 2}}, []int{0}), []fold.Place{{Index: 1}, {Copy: 1, Index: 1}}},
		{makeRun(2, []int{4}, four, []int{0}, []int{1}), []fold.Place{{Index: 1}, {Section: 1, Index: 1}, {Copy: 1, Index: 1}, {Copy: 1, Section: 1, Index: 1}}},
	} {
		if l, e := fold.Ganged(c.r); e != api.OK || !slices.Equal(l, c.want) {
			t.Error(i, l, e)
		}
	}
	collected := makeRun(2, []int{2}, []fold.Ribbon{{Width: 2}}, []int{0})
	collected.Collected = true
	if l, e := fold.Ganged(collected); e != api.OK || !slices.Equal(l, []fold.Place{{Index: 1}, {Section: 1, Index: 1}}) {
		t.Error(l, e)
	}
}

// P1.4: two narrow ribbons beside each other are not one ribbon, also if they are read one after the other on one side.
func TestGangedNeedsOneRibbon(t *testing.T) {
	ribbons := []fold.Ribbon{{Width: 1, Turned: true}, {Col: 1, Width: 1}}
	for _, stack := range [][]int{{0, 1}, {1, 0}} {
		r := makeRun(1, []int{2}, ribbons, stack)
		if l, e := fold.Ganged(r); e != api.OK || len(l) != 0 {
			t.Error(stack, l, e)
		}
	}
}

// stackOf returns the stack of a section.
func stackOf(r fold.Run, section int) []int {
	if r.Collected {
		return r.Stacks[section/2]
	}
	return r.Stacks[section]
}

// P1.4, P1.5: the topmost ribbon of a stack, and only it, gangs pages, if it has both halves.
func TestGangedOfAnyRun(t *testing.T) {
	anyRuns(func(r fold.Run, _ *rand.Rand) {
		copies, _ := fold.Copies(r)
		var want []fold.Place
		for c, sections := range copies {
			for s := range sections {
				stack := stackOf(r, s)
				rights := 0
				for _, n := range stack {
					if !r.Ribbons[n].Left {
						rights++
					}
				}
				if r.Ribbons[stack[len(stack)-1]].Width == 2 {
					want = append(want, fold.Place{Copy: c, Section: s, Index: 2*rights - 1})
				}
			}
		}
		if l, e := fold.Ganged(r); e != api.OK || !slices.Equal(l, want) {
			t.Errorf("%v %v, not %v: %+v", l, e, want, r)
		}
	})
}

// P1.4
func TestCut(t *testing.T) {
	one := makeRun(1, []int{2}, []fold.Ribbon{{Width: 2}}, []int{0})
	two := makeRun(2, []int{2}, []fold.Ribbon{{Width: 2}}, []int{0})
	collected := deepCopy(two)
	collected.Collected = true
	for i, c := range []struct {
		r             fold.Run
		n, copy, part int
		e             api.Errno
	}{
		{one, 0, 0, 0, api.OK},
		{one, 5, 5, 0, api.OK},
		{two, 5, 5, 0, api.OK},
		{two, 1000000000, 1000000000, 0, api.OK},
		{two, 1000000001, 0, 0, api.ErrRange},
		{two, -1, 0, 0, api.ErrRange},
		{collected, 0, 0, 0, api.OK},
		{collected, 1, 0, 1, api.OK},
		{collected, 2, 1, 0, api.OK},
		{collected, 5, 2, 1, api.OK},
		{collected, 1000000000, 500000000, 0, api.OK},
		{collected, 1000000001, 0, 0, api.ErrRange},
		{collected, math.MaxInt, 0, 0, api.ErrRange},
		{collected, math.MinInt, 0, 0, api.ErrRange},
	} {
		if n, part, e := fold.Cut(c.r, c.n); n != c.copy || part != c.part || e != c.e {
			t.Error(i, n, part, e)
		}
	}
}

// P1.4
func TestTurnErrors(t *testing.T) {
	r := makeRun(1, []int{2}, []fold.Ribbon{{Width: 1}, {Col: 1, Width: 1}}, []int{0, 1})
	for _, n := range []int{math.MinInt, -1, 2, math.MaxInt} {
		if x, e := fold.Turn(r, n); e != api.ErrRange || !same(x, fold.Run{}) {
			t.Error(n, x, e)
		}
	}
}

// P1.4, P1.5: just the one ribbon is turned, and a ribbon that is turned twice is as it was.
func TestTurnOfAnyRun(t *testing.T) {
	anyRuns(func(r fold.Run, _ *rand.Rand) {
		for n := range r.Ribbons {
			x, e := fold.Turn(r, n)
			want := deepCopy(r)
			want.Ribbons[n].Turned = !want.Ribbons[n].Turned
			if e != api.OK || !same(x, want) {
				t.Errorf("%d: %v %+v, not %+v", n, e, x, want)
			}
			if y, e := fold.Turn(x, n); e != api.OK || !same(y, r) {
				t.Errorf("%d: %v %+v, not %+v", n, e, y, r)
			}
		}
	})
}

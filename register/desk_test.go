package register_test

import (
	"math"
	"math/rand"
	"reflect"
	"testing"

	"foldhouse/api"
	"foldhouse/register"
)

// newDesk returns a desk, and fails if there is an error.
func newDesk(t *testing.T, pattern []int, l []register.Loop, window, limit int) *register.Desk {
	t.Helper()
	d, code := register.New(pattern, l, window, limit)
	if d == nil || code != api.OK {
		t.Fatal(pattern, l, window, limit, code)
	}
	return d
}

// three returns a desk of three marks, with a dead time of 1 and without one.
func three(t *testing.T) *register.Desk {
	t.Helper()
	return newDesk(t, []int{0, 100, 300}, []register.Loop{{Dead: 1, Noise: 2, Step: 10}, {Step: 5}}, 20, 6)
}

// none returns a copy of which a desk of three marks can read nothing.
func none() register.Copy {
	return register.Copy{Errors: []int{lost, lost}, Moves: []int{0, 0}}
}

// expectRead checks the reading of a copy.
func expectRead(t *testing.T, d *register.Desk, seen []int, want register.Copy, code api.Errno) {
	t.Helper()
	if c, got := d.Read(seen); got != code || !reflect.DeepEqual(c, want) {
		t.Error(seen, c, got)
	}
}

// expectCopies checks how many copies a desk has read, and how many are not good.
func expectCopies(t *testing.T, d *register.Desk, copies, waste int) {
	t.Helper()
	if l, code := d.Copies(); code != api.OK || len(l) != copies {
		t.Error(len(l), code)
	}
	if n, code := d.Waste(); code != api.OK || n != waste {
		t.Error(n, code)
	}
}

// P5.4: readings, with the corrections of each loop, and what is kept of them.
func TestDesk(t *testing.T) {
	d := three(t)
	expectCopies(t, d, 0, 0)
	readings := []struct {
		seen []int
		want register.Copy
		code api.Errno
	}{
		{[]int{0, 104, 293}, register.Copy{Errors: []int{4, -7}, Moves: []int{-4, 5}}, api.OK},
		{[]int{10, 114, 308}, register.Copy{Good: true, Errors: []int{4, -2}, Moves: []int{0, 2}}, api.OK},
		{[]int{30, 130, 330}, register.Copy{Good: true, Shift: 10, Errors: []int{0, 0}, Moves: []int{0, 0}}, api.OK},
		{[]int{10, 310}, register.Copy{Errors: []int{lost, 0}, Moves: []int{0, 0}}, api.OK},
		{[]int{100, 300}, none(), api.ErrNone},
		{nil, none(), api.ErrNone},
		{[]int{0}, none(), api.ErrNone},
		{[]int{0, 116, 300}, register.Copy{Errors: []int{16, 0}, Moves: []int{-10, 0}}, api.OK},
		{[]int{0, 116, 300}, register.Copy{Errors: []int{16, 0}, Moves: []int{-6, 0}}, api.OK},
		{[]int{-30, 70, 270}, register.Copy{Good: true, Shift: -10, Errors: []int{0, 0}, Moves: []int{6, 0}}, api.OK},
	}
	var want []register.Copy
	for _, r := range readings {
		expectRead(t, d, r.seen, r.want, r.code)
		want = append(want, r.want)
	}
	if l, code := d.Copies(); code != api.OK || !reflect.DeepEqual(l, want) {
		t.Error(l, code)
	}
	expectCopies(t, d, 10, 7)
}

// P5.4: half of the marks are enough, if the first one is among them.
func TestReadHalf(t *testing.T) {
	loops := make([]register.Loop, 4)
	for i := range loops {
		loops[i].Step = 9
	}
	four := func() *register.Desk { return newDesk(t, []int{0, 100, 200, 300}, loops[:3], 2, 0) }
	d := four()
	expectRead(t, d, []int{1, 201}, register.Copy{Errors: []int{lost, 0, lost}, Moves: []int{0, 0, 0}}, api.OK)
	expectRead(t, d, []int{0}, register.Copy{Errors: []int{lost, lost, lost}, Moves: []int{0, 0, 0}}, api.ErrNone)
	expectRead(t, d, []int{100, 200, 300}, register.Copy{Errors: []int{lost, lost, lost}, Moves: []int{0, 0, 0}}, api.ErrNone)
	five := newDesk(t, []int{0, 100, 200, 300, 400}, loops, 2, 0)
	expectRead(t, five, []int{0, 100}, register.Copy{Errors: []int{lost, lost, lost, lost}, Moves: []int{0, 0, 0, 0}}, api.ErrNone)
	expectRead(t, five, []int{0, 100, 399}, register.Copy{Errors: []int{0, lost, lost, -1}, Moves: []int{0, 0, 0, 1}}, api.OK)
	two := newDesk(t, []int{0, 100}, loops[:1], 2, 0)
	expectRead(t, two, []int{2}, register.Copy{Errors: []int{lost}, Moves: []int{0}}, api.OK)
	expectRead(t, two, []int{-1}, register.Copy{Errors: []int{lost}, Moves: []int{0}}, api.OK)
	expectRead(t, two, []int{2100}, register.Copy{Errors: []int{lost}, Moves: []int{0}}, api.ErrNone)
	expectCopies(t, two, 3, 3)
}

// P5.4: of a copy that is read the shift of the best fit is told, and of one that is not, 0.
func TestReadShift(t *testing.T) {
	d := three(t)
	expectRead(t, d, []int{1000, 1100, 1300}, register.Copy{Good: true, Shift: 980, Errors: []int{0, 0}, Moves: []int{0, 0}}, api.OK)
	expectRead(t, d, []int{1100}, none(), api.ErrNone)
	expectRead(t, d, []int{2000, 2100, 2300}, register.Copy{Good: true, Shift: 1980, Errors: []int{0, 0}, Moves: []int{0, 0}}, api.OK)
	expectRead(t, d, []int{2020, 2120, 2320}, register.Copy{Good: true, Shift: 2000, Errors: []int{0, 0}, Moves: []int{0, 0}}, api.OK)
	expectRead(t, d, []int{2021, 2121, 2320}, none(), api.ErrNone)
}

// P5.4: a copy is good if no error is above the limit, either way.
func TestReadLimit(t *testing.T) {
	for _, c := range []struct {
		limit, off int
		good       bool
	}{{0, 0, true}, {0, 1, false}, {0, -1, false}, {6, 6, true}, {6, -6, true}, {6, 7, false}, {6, -7, false}, {1000000, 20, true}} {
		for mark := range 2 {
			d := newDesk(t, []int{0, 100, 300}, []register.Loop{{Step: 50}, {Step: 50}}, 20, c.limit)
			seen, want := []int{0, 100, 300}, register.Copy{Good: c.good, Errors: []int{0, 0}, Moves: []int{0, 0}}
			seen[mark+1] += c.off
			want.Errors[mark], want.Moves[mark] = c.off, -c.off
			expectRead(t, d, seen, want, api.OK)
		}
	}
	d := newDesk(t, []int{0, 100}, []register.Loop{{Step: 50}}, 20, 1000000)
	expectRead(t, d, []int{0}, register.Copy{Errors: []int{lost}, Moves: []int{0}}, api.OK)
}

// P5.4: what is wrong with a reading changes nothing: neither the copies, nor the corrections that have not acted.
func TestReadErrors(t *testing.T) {
	d := three(t)
	expectRead(t, d, []int{0, 108, 300}, register.Copy{Errors: []int{8, 0}, Moves: []int{-8, 0}}, api.OK)
	for _, seen := range [][]int{{5, 5}, {6, 5}, {-100001}, {200001}, {math.MinInt}, {math.MaxInt}} {
		expectRead(t, d, seen, register.Copy{}, api.ErrOrder)
	}
	expectRead(t, d, numbers(41, 0, 5), register.Copy{}, api.ErrMany)
	expectRead(t, d, numbers(41, 0, -5), register.Copy{}, api.ErrMany)
	expectCopies(t, d, 1, 1)
	expectRead(t, d, []int{0, 108, 300}, register.Copy{Errors: []int{8, 0}, Moves: []int{0, 0}}, api.OK)
	expectRead(t, d, []int{0, 100, 300}, register.Copy{Good: true, Errors: []int{0, 0}, Moves: []int{0, 0}}, api.OK)
}

// P5.4: a desk takes 5000 copies, those that it could not read among them.
func TestReadMany(t *testing.T) {
	d := three(t)
	good := register.Copy{Good: true, Errors: []int{0, 0}, Moves: []int{0, 0}}
	for range 2500 {
		expectRead(t, d, []int{0, 100, 300}, good, api.OK)
		expectRead(t, d, nil, none(), api.ErrNone)
	}
	for _, seen := range [][]int{{0, 100, 300}, nil, {5, 5}, numbers(41, 0, 5)} {
		expectRead(t, d, seen, register.Copy{}, api.ErrMany)
	}
	expectCopies(t, d, 5000, 2500)
}

// P5.4: what New allows.
func TestNew(t *testing.T) {
	loops := []register.Loop{{Step: 1}, {Step: 1}}
	newDesk(t, []int{0, 10, 19}, loops, 2, 0)
	newDesk(t, []int{0, 10, 100000}, loops, 2, 1000000)
	newDesk(t, []int{79999, 100000}, loops[:1], 5000, 0)
	newDesk(t, []int{0, 1}, loops[:1], 0, 0)
	many := make([]register.Loop, 11)
	for i := range many {
		many[i].Step = 1
	}
	newDesk(t, numbers(12, 0, 9), many, 2, 0)
}

// P5.4: what New refuses, and in which order.
func TestNewErrors(t *testing.T) {
	refuse := func(pattern []int, l []register.Loop, window, limit int, want api.Errno) {
		t.Helper()
		if d, code := register.New(pattern, l, window, limit); d != nil || code != want {
			t.Error(pattern, l, window, limit, code)
		}
	}
	right := []register.Loop{{Step: 1}, {Step: 1}}
	for _, pattern := range [][]int{nil, {0}, {-1}, numbers(13, 0, 100), numbers(13, 0, -1)} {
		refuse(pattern, wrongLoops(), -1, -1, api.ErrMany)
		refuse(pattern, nil, 0, 0, api.ErrMany)
	}
	for _, l := range wrongLoops() {
		refuse([]int{0, 10, 30}, []register.Loop{{Step: 1}, l}, 2, 0, api.ErrRegister)
		refuse([]int{0, 10, 30}, []register.Loop{l, {Step: 1}}, 2, 0, api.ErrRegister)
		refuse([]int{0, 10}, []register.Loop{{Step: 1}, {Step: 1}, l}, -1, -1, api.ErrRegister)
	}
	for _, l := range [][]register.Loop{nil, right[:1], append(right, right...)} {
		refuse([]int{0, 10, 30}, l, 2, 0, api.ErrArg)
		refuse([]int{10, 0, 30}, l, -1, -1, api.ErrArg)
	}
	for _, pattern := range [][]int{{0, 10, 18}, {0, 8, 30}, {0, 10, 9}, {-1, 10, 30}, {math.MinInt, 10, math.MaxInt}, {0, 10, 100001}} {
		refuse(pattern, right, 2, 0, api.ErrRange)
	}
	for _, window := range []int{-1, 5001, math.MinInt, math.MaxInt, math.MaxInt/2 + 1} {
		refuse([]int{0, 50000, 100000}, right, window, 0, api.ErrRange)
	}
	for _, limit := range []int{-1, 1000001, math.MinInt, math.MaxInt} {
		refuse([]int{0, 50000, 100000}, right, 2, limit, api.ErrRange)
	}
}

// decided returns the correction of a loop for an error, by the words of the chapter, if these corrections were decided before.
func decided(l register.Loop, e int, before []int) int {
	if e == lost {
		return 0
	}
	v := e
	for back := 1; back <= l.Dead && back <= len(before); back++ {
		v += before[len(before)-back]
	}
	return max(-l.Step, min(l.Step, -v))
}

// P5.4: readings of all kinds follow from the best shift and the rule.
func TestReadWords(t *testing.T) {
	rnd := rand.New(rand.NewSource(6))
	for range 40 {
		window := rnd.Intn(40)
		pattern := anyPattern(rnd, window)
		var loops []register.Loop
		for range pattern[1:] {
			loops = append(loops, anyLoop(rnd))
		}
		limit := rnd.Intn(3 * (window + 1))
		d := newDesk(t, pattern, loops, window, limit)
		moves := make([][]int, len(loops))
		for range 40 {
			seen := anySeen(rnd, pattern, window)
			want, code := reading(pattern, window, limit, match(t, pattern, window, seen))
			for i, e := range want.Errors {
				want.Moves = append(want.Moves, decided(loops[i], e, moves[i]))
				moves[i] = append(moves[i], want.Moves[i])
			}
			expectRead(t, d, seen, want, code)
		}
	}
}

// reading returns what is read of a copy with a fit, but for the corrections.
func reading(pattern []int, window, limit int, fit register.Fit) (register.Copy, api.Errno) {
	c := register.Copy{Good: true, Shift: fit.Shift}
	code := api.OK
	if fit.Found[0] == lost || fit.Count < (len(pattern)+1)/2 {
		c, code = register.Copy{}, api.ErrNone
	}
	for i, p := range pattern {
		e := lost
		if code == api.OK && fit.Found[i] != lost {
			e = fit.Found[i] - fit.Found[0] - p + pattern[0]
		}
		if i > 0 {
			c.Errors = append(c.Errors, e)
		}
		c.Good = c.Good && abs(e) <= limit
	}
	return c, code
}

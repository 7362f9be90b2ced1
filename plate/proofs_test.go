package plate_test

import (
	"math"
	"math/big"
	"math/rand"
	"slices"
	"testing"

	"foldhouse/api"
	"foldhouse/plate"
)

// overloads reports whether an interval is overloaded, with numbers of any size.
func overloads(l []plate.Task, setters int, s api.Span) bool {
	if s.Lo > s.Hi {
		return false
	}
	inside := int64(0)
	for _, t := range l {
		if s.Lo <= t.Ready && t.Due <= s.Hi {
			inside++
		}
	}
	room := new(big.Int).Sub(big.NewInt(int64(s.Hi)), big.NewInt(int64(s.Lo)))
	room.Add(room, big.NewInt(1))
	room.Mul(room, big.NewInt(int64(setters)))
	return big.NewInt(inside).Cmp(room) > 0
}

// firstOverload returns the first overloaded interval that begins with a Ready and ends with a Due, of tasks of few slots.
func firstOverload(l []plate.Task, setters int) (api.Span, bool) {
	begins := func(slot int) bool { return slices.ContainsFunc(l, func(t plate.Task) bool { return t.Ready == slot }) }
	ends := func(slot int) bool { return slices.ContainsFunc(l, func(t plate.Task) bool { return t.Due == slot }) }
	for lo := range 20 {
		for hi := range 20 {
			if s := (api.Span{Lo: lo, Hi: hi}); begins(lo) && ends(hi) && overloads(l, setters, s) {
				return s, true
			}
		}
	}
	return api.Span{}, false
}

// P4.1: the first interval that is overloaded.
func TestOverload(t *testing.T) {
	none := api.Span{Lo: -1}
	for i, c := range []struct {
		l       []plate.Task
		setters int
		want    api.Span
	}{
		{three(), 1, api.Span{Lo: 0, Hi: 1}},
		{three(), 2, none},
		{three(), 3, none},
		{same(9, 5, 5), 8, api.Span{Lo: 5, Hi: 5}},
		{same(8, 5, 5), 8, none},
		{same(200, 9801, 9999), 1, api.Span{Lo: 9801, Hi: 9999}},
		{same(200, 9800, 9999), 1, none},
		// The interval from 0 to 4 has just as many tasks as it may.
		{[]plate.Task{{Due: 4}, {Ready: 1, Due: 2}, {Ready: 1, Due: 2}, {Ready: 4, Due: 4}, {Ready: 2, Due: 3}}, 1, none},
		// Less Lo goes before less Hi: the interval from 2 to 2 is overloaded, too.
		{[]plate.Task{{Ready: 2, Due: 2}, {Ready: 2, Due: 2}, {Due: 5}, {Due: 5}, {Due: 5}, {Due: 5}, {Due: 5}}, 1, api.Span{Lo: 0, Hi: 5}},
		// Of those with the same Lo that with less Hi is first.
		{[]plate.Task{{Due: 3}, {Due: 3}, {Due: 3}, {Due: 1}, {Due: 1}, {Due: 1}}, 1, api.Span{Lo: 0, Hi: 1}},
		// The interval from 0 to 1 is overloaded, and no task that begins it is in it with Due 1.
		{[]plate.Task{{Due: 9}, {Ready: 1, Due: 1}, {Ready: 1, Due: 1}, {Ready: 1, Due: 1}}, 1, api.Span{Lo: 0, Hi: 1}},
		// A Ready behind a Due makes no interval.
		{[]plate.Task{{Due: 1}, {Ready: 5, Due: 5}, {Ready: 5, Due: 5}}, 1, api.Span{Lo: 5, Hi: 5}},
	} {
		s, e := plate.Overload(c.l, c.setters)
		if c.want == none {
			if e != api.ErrNone || s != (api.Span{}) {
				t.Error(i, s, e)
			}
			continue
		}
		if e != api.OK || s != c.want || plate.Refute(c.l, c.setters, s) != api.OK {
			t.Error(i, s, e)
		}
	}
}

// P4.1: any interval can be overloaded, also one that begins with no Ready, or has slots that no task can have.
func TestRefute(t *testing.T) {
	nine := same(9, 0, 0)
	last := same(9, 9999, 9999)
	for i, c := range []struct {
		l       []plate.Task
		setters int
		s       api.Span
		want    api.Errno
	}{
		{three(), 1, api.Span{Lo: 0, Hi: 1}, api.OK},
		{three(), 1, api.Span{Lo: 0, Hi: 2}, api.ErrFalse},
		{three(), 1, api.Span{Lo: 0, Hi: 0}, api.ErrFalse},
		{three(), 1, api.Span{Lo: 1, Hi: 1}, api.ErrFalse},
		{three(), 1, api.Span{Lo: -1, Hi: 1}, api.ErrFalse},
		{three(), 2, api.Span{Lo: 0, Hi: 1}, api.ErrFalse},
		{nine, 8, api.Span{}, api.OK},
		{nine, 8, api.Span{Lo: 0, Hi: 1}, api.ErrFalse},
		{nine, 4, api.Span{Lo: 0, Hi: 1}, api.OK},
		{nine, 4, api.Span{Lo: -1, Hi: 0}, api.OK},
		{nine, 4, api.Span{Lo: -1, Hi: 1}, api.ErrFalse},
		{nine, 1, api.Span{Lo: -7, Hi: 0}, api.OK},
		{nine, 1, api.Span{Lo: -8, Hi: 0}, api.ErrFalse},
		{last, 1, api.Span{Lo: 9999, Hi: 10006}, api.OK},
		{last, 1, api.Span{Lo: 9999, Hi: 10007}, api.ErrFalse},
		{nine, 8, api.Span{Lo: 1, Hi: 0}, api.ErrFalse},
		{nine, 1, api.Span{Lo: 0, Hi: -1}, api.ErrFalse},
		{nine, 1, api.Span{Lo: 1, Hi: -1}, api.ErrFalse},
		{nine, 1, api.Span{Lo: math.MinInt, Hi: 0}, api.ErrFalse},
		{nine, 1, api.Span{Lo: 0, Hi: math.MaxInt}, api.ErrFalse},
		{nine, 1, api.Span{Lo: -1, Hi: math.MaxInt}, api.ErrFalse},
		{nine, 1, api.Span{Lo: math.MinInt, Hi: math.MaxInt}, api.ErrFalse},
		{nine, 1, api.Span{Lo: math.MaxInt, Hi: math.MinInt}, api.ErrFalse},
		{nine, 8, api.Span{Lo: math.MinInt, Hi: math.MaxInt}, api.ErrFalse},
		{nine, 8, api.Span{Lo: math.MinInt + 1, Hi: math.MaxInt}, api.ErrFalse},
		{nine, 8, api.Span{Lo: math.MinInt/8 + 1, Hi: math.MaxInt / 8}, api.ErrFalse},
		{nil, 1, api.Span{Lo: math.MaxInt, Hi: math.MaxInt}, api.ErrFalse},
		{nil, 1, api.Span{Lo: math.MinInt, Hi: math.MinInt}, api.ErrFalse},
		{nil, 1, api.Span{Lo: 1, Hi: 0}, api.ErrFalse},
		{nil, 1, api.Span{Lo: 3, Hi: 0}, api.ErrFalse},
	} {
		if e := plate.Refute(c.l, c.setters, c.s); e != c.want {
			t.Error(i, e)
		}
	}
}

// P4.1, P4.5: there is a schedule just if no interval is overloaded.
func TestAnyOverload(t *testing.T) {
	rnd := rand.New(rand.NewSource(2))
	found, none, refuted := 0, 0, 0
	for range 4000 {
		l, setters := anyTasks(rnd)
		want, is := firstOverload(l, setters)
		s, e := plate.Overload(l, setters)
		if is {
			found++
			if e != api.OK || s != want || plate.Refute(l, setters, s) != api.OK {
				t.Errorf("%v %v, not %v: %v %v", s, e, want, l, setters)
			}
		} else {
			none++
			if e != api.ErrNone || s != (api.Span{}) {
				t.Errorf("%v %v: %v %v", s, e, l, setters)
			}
		}
		if _, e := plate.Expose(l, setters); (e == api.OK) == is {
			t.Errorf("%v: %v %v", e, l, setters)
		}
		for range 10 {
			lo := rnd.Intn(10) - 1
			s := api.Span{Lo: lo, Hi: lo + rnd.Intn(4) - 1}
			want := api.ErrFalse
			if overloads(l, setters, s) {
				want = api.OK
				refuted++
			}
			if e := plate.Refute(l, setters, s); e != want {
				t.Errorf("%v %v: %v %v", e, s, l, setters)
			}
		}
	}
	if found < 500 || none < 500 || refuted < 300 {
		t.Error(found, none, refuted)
	}
}

// P4.1: the least number of setters.
func TestSetters(t *testing.T) {
	for n := 1; n <= 8; n++ {
		if got, e := plate.Setters(same(n, 3, 3)); e != api.OK || got != n {
			t.Error(n, got, e)
		}
		if got, e := plate.Setters(same(10*n-9, 30, 39)); e != api.OK || got != n {
			t.Error(n, got, e)
		}
	}
	for i, c := range []struct {
		l    []plate.Task
		want int
	}{
		{nil, 1},
		{[]plate.Task{}, 1},
		{[]plate.Task{{Due: 9999}}, 1},
		{three(), 2},
		{same(200, 0, 199), 1},
		{same(200, 0, 198), 2},
		{same(200, 0, 24), 8},
	} {
		if n, e := plate.Setters(c.l); e != api.OK || n != c.want {
			t.Error(i, n, e)
		}
	}
	for _, l := range [][]plate.Task{same(9, 0, 0), same(200, 0, 23), same(200, 9999, 9999)} {
		if n, e := plate.Setters(l); e != api.ErrTime || n != 0 {
			t.Error(n, e)
		}
	}
}

// P4.1, P4.5: with Setters there is a schedule, and with fewer there is none.
func TestAnySetters(t *testing.T) {
	rnd := rand.New(rand.NewSource(3))
	var found [10]int
	for range 2000 {
		l, _ := anyTasks(rnd)
		for range rnd.Intn(3) {
			l = append(l, l...)
		}
		want := 1
		for want <= 8 && matched(l, want) < len(l) {
			want++
		}
		found[want]++
		n, e := plate.Setters(l)
		if want <= 8 && (e != api.OK || n != want) || want > 8 && (e != api.ErrTime || n != 0) {
			t.Errorf("%v %v, not %v: %v", n, e, want, l)
		}
	}
	for n, times := range found {
		if n > 0 && times == 0 {
			t.Error(found)
		}
	}
}

// P4.1: the tasks that are kept.
func TestKeep(t *testing.T) {
	for i, c := range []struct {
		l       []plate.Task
		setters int
		want    []int
	}{
		{three(), 1, []int{0, 1}},
		{three(), 2, []int{0, 1, 2}},
		{[]plate.Task{{Due: 3}, {}, {Due: 1}, {Due: 1}, {Ready: 2, Due: 2}}, 1, []int{0, 1, 2, 4}},
		{same(9, 7, 7), 8, []int{0, 1, 2, 3, 4, 5, 6, 7}},
		{same(9, 7, 7), 1, []int{0}},
		// An earlier task stays, also if more urgent ones come behind it.
		{[]plate.Task{{Ready: 1, Due: 1}, {Due: 1}, {Due: 1}, {}}, 1, []int{0, 1}},
		{[]plate.Task{{Due: 1}, {Due: 1}, {Ready: 1, Due: 1}, {Ready: 2, Due: 2}}, 1, []int{0, 1, 3}},
		// One that is not kept does not stand in the way of later ones.
		{[]plate.Task{{}, {}, {Due: 1}, {}, {Due: 2}, {Due: 2}}, 1, []int{0, 2, 4}},
	} {
		if l, e := plate.Keep(c.l, c.setters); e != api.OK || !slices.Equal(l, c.want) {
			t.Error(i, l, e)
		}
	}
	for _, c := range []struct{ n, setters, want int }{{200, 1, 200}, {200, 8, 200}} {
		if l, e := plate.Keep(same(c.n, 0, 9999), c.setters); e != api.OK || len(l) != c.want || l[c.want-1] != c.want-1 {
			t.Error(l, e)
		}
	}
	if l, e := plate.Keep(same(200, 100, 109), 7); e != api.OK || len(l) != 70 || l[69] != 69 {
		t.Error(l, e)
	}
}

// P4.1, P4.5: one task after the other is kept if it can be, and so as many are as can be kept.
func TestAnyKeep(t *testing.T) {
	rnd := rand.New(rand.NewSource(4))
	some := 0
	for range 4000 {
		l, setters := anyTasks(rnd)
		var want []int
		var kept []plate.Task
		for i, task := range l {
			if more := append(slices.Clone(kept), task); matched(more, setters) == len(more) {
				want, kept = append(want, i), more
			}
		}
		got, e := plate.Keep(l, setters)
		if e != api.OK || !slices.Equal(got, want) || len(got) != matched(l, setters) {
			t.Errorf("%v %v, not %v: %v %v", got, e, want, l, setters)
		}
		if len(want) < len(l) {
			some++
		}
	}
	if some < 500 {
		t.Error(some)
	}
}

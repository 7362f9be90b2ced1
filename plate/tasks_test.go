package plate_test

import (
	"math"
	"math/rand"
	"slices"
	"testing"

	"foldhouse/api"
	"foldhouse/plate"
)

// three are the tasks of the chapter's example 1.
func three() []plate.Task {
	return []plate.Task{{Due: 1}, {Due: 1}, {Due: 1}}
}

// same returns so many tasks that are all alike.
func same(n, ready, due int) []plate.Task {
	return slices.Repeat([]plate.Task{{Ready: ready, Due: due}}, n)
}

// anyTasks returns some tasks of slots from 0 on, and a number of setters, so that there is a schedule for some of them.
func anyTasks(rnd *rand.Rand) ([]plate.Task, int) {
	slots := 1 + rnd.Intn(8)
	setters := 1 + rnd.Intn(3)
	var l []plate.Task
	for range rnd.Intn(slots*setters + 2) {
		ready := rnd.Intn(slots)
		l = append(l, plate.Task{Ready: ready, Due: ready + rnd.Intn(slots-ready)})
	}
	return l, setters
}

// matched returns how many of the tasks can be exposed, each by one setter in one slot: the size of a greatest matching.
func matched(l []plate.Task, setters int) int {
	type place struct{ slot, setter int }
	taken := map[place]int{}
	var seek func(task int, seen map[place]bool) bool
	seek = func(task int, seen map[place]bool) bool {
		for slot := l[task].Ready; slot <= l[task].Due; slot++ {
			for setter := range setters {
				p := place{slot, setter}
				if seen[p] {
					continue
				}
				seen[p] = true
				other, is := taken[p]
				if !is || seek(other, seen) {
					taken[p] = task
					return true
				}
			}
		}
		return false
	}
	n := 0
	for task := range l {
		if seek(task, map[place]bool{}) {
			n++
		}
	}
	return n
}

// exposed returns the schedule by due slots as the chapter has it, slot after slot and setter after setter; nil if a task is too late.
func exposed(l []plate.Task, setters int) []int {
	slots := slices.Repeat([]int{-1}, len(l))
	for slot := 0; slices.Contains(slots, -1); slot++ {
		for range setters {
			least := -1
			for i, t := range l {
				if slots[i] < 0 && t.Ready <= slot && (least < 0 || t.Due < l[least].Due) {
					least = i
				}
			}
			if least < 0 {
				break
			}
			if l[least].Due < slot {
				return nil
			}
			slots[least] = slot
		}
	}
	return slots
}

// taskCase has tasks with an error, or without one.
type taskCase struct {
	name string
	l    []plate.Task
	want api.Errno
}

func taskCases() []taskCase {
	late := plate.Task{Ready: 2, Due: 1}
	return []taskCase{
		{"nil", nil, api.OK},
		{"empty", []plate.Task{}, api.OK},
		{"zero", []plate.Task{{}}, api.OK},
		{"all slots", []plate.Task{{Ready: 0, Due: 9999}}, api.OK},
		{"last slot", []plate.Task{{Ready: 9999, Due: 9999}}, api.OK},
		{"Ready at Due", []plate.Task{{Ready: 5, Due: 5}}, api.OK},
		{"Ready after Due", []plate.Task{{Ready: 6, Due: 5}}, api.ErrPlate},
		{"Ready below 0", []plate.Task{{Ready: -1, Due: 5}}, api.ErrPlate},
		{"both below 0", []plate.Task{{Ready: -2, Due: -1}}, api.ErrPlate},
		{"Due below 0", []plate.Task{{Ready: 0, Due: -1}}, api.ErrPlate},
		{"Due above the last slot", []plate.Task{{Ready: 5, Due: 10000}}, api.ErrPlate},
		{"both above the last slot", []plate.Task{{Ready: 10000, Due: 10000}}, api.ErrPlate},
		{"Ready above the last slot", []plate.Task{{Ready: 10000, Due: 9999}}, api.ErrPlate},
		{"least Ready", []plate.Task{{Ready: math.MinInt, Due: 0}}, api.ErrPlate},
		{"greatest Due", []plate.Task{{Ready: 0, Due: math.MaxInt}}, api.ErrPlate},
		{"greatest and least", []plate.Task{{Ready: math.MaxInt, Due: math.MinInt}}, api.ErrPlate},
		{"least and greatest", []plate.Task{{Ready: math.MinInt, Due: math.MaxInt}}, api.ErrPlate},
		{"a later one", []plate.Task{{}, {Due: 3}, late}, api.ErrPlate},
		{"the first one", []plate.Task{late, {Due: 3}, {}}, api.ErrPlate},
		{"200", same(200, 0, 9999), api.OK},
		{"the last one of 200", append(same(199, 0, 9999), late), api.ErrPlate},
		{"201", same(201, 0, 9999), api.ErrMany},
		{"201 that are not allowed", slices.Repeat([]plate.Task{late}, 201), api.ErrMany},
		{"1000", same(1000, 0, 9999), api.ErrMany},
	}
}

// P4.1: the error of tasks, which all functions return first.
func TestCheck(t *testing.T) {
	for _, c := range taskCases() {
		if e := plate.Check(c.l); e != c.want {
			t.Error(c.name, e)
		}
		if c.want == api.OK {
			continue
		}
		n, setters := plate.Setters(c.l)
		if setters != c.want || n != 0 {
			t.Error(c.name, n, setters)
		}
		for _, setters := range []int{1, 8, 0, 9} {
			expectTaskError(t, c.name, c.l, setters, c.want)
		}
	}
}

// P4.1: the numbers of setters that are not allowed.
func TestNumberOfSetters(t *testing.T) {
	for _, l := range [][]plate.Task{nil, {{}}, same(200, 0, 9999), three(), same(9, 0, 0)} {
		for _, setters := range []int{0, 9, -1, 10, math.MinInt, math.MaxInt} {
			expectTaskError(t, "setters", l, setters, api.ErrArg)
		}
	}
	for setters := 1; setters <= 8; setters++ {
		if l, e := plate.Expose(nil, setters); e != api.OK || len(l) != 0 {
			t.Error(setters, l, e)
		}
		if l, e := plate.Keep(nil, setters); e != api.OK || len(l) != 0 {
			t.Error(setters, l, e)
		}
		if e := plate.Verify(nil, setters, nil); e != api.OK {
			t.Error(setters, e)
		}
		if s, e := plate.Overload(nil, setters); e != api.ErrNone || s != (api.Span{}) {
			t.Error(setters, s, e)
		}
		if e := plate.Refute(nil, setters, api.Span{}); e != api.ErrFalse {
			t.Error(setters, e)
		}
	}
}

// expectTaskError checks that each function of tasks and setters returns an error, and nothing else.
func expectTaskError(t *testing.T, name string, l []plate.Task, setters int, want api.Errno) {
	t.Helper()
	slots, e1 := plate.Expose(l, setters)
	e2 := plate.Verify(l, setters, []int{0})
	span, e3 := plate.Overload(l, setters)
	e4 := plate.Refute(l, setters, api.Span{Hi: 1})
	kept, e5 := plate.Keep(l, setters)
	for i, e := range []api.Errno{e1, e2, e3, e4, e5} {
		if e != want {
			t.Error(name, setters, i, e)
		}
	}
	if slots != nil || span != (api.Span{}) || kept != nil {
		t.Error(name, setters, slots, span, kept)
	}
}

// P4.1: the examples of the chapter, and some others.
func TestExpose(t *testing.T) {
	for i, c := range []struct {
		l       []plate.Task
		setters int
		want    []int
	}{
		{three(), 1, nil},
		{three(), 2, []int{0, 0, 1}},
		{three(), 3, []int{0, 0, 0}},
		{three(), 8, []int{0, 0, 0}},
		{[]plate.Task{{Due: 2}, {}, {Ready: 1, Due: 1}}, 1, []int{2, 0, 1}},
		// Of several with the same Due those that come first, also if they were ready later.
		{[]plate.Task{{Due: 9}, {Due: 9}, {Due: 9}}, 1, []int{0, 1, 2}},
		{[]plate.Task{{Ready: 1, Due: 9}, {Due: 9}, {Due: 9}}, 1, []int{1, 0, 2}},
		{[]plate.Task{{Ready: 1, Due: 9}, {Ready: 1, Due: 9}, {Due: 9}, {Due: 9}}, 2, []int{1, 1, 0, 0}},
		// One that becomes ready goes before others that have waited.
		{[]plate.Task{{Due: 5}, {Due: 5}, {Ready: 1, Due: 2}, {Ready: 2, Due: 3}}, 1, []int{0, 3, 1, 2}},
		// Slots stay empty while nothing is ready.
		{[]plate.Task{{Ready: 7, Due: 9}, {Ready: 3, Due: 9}, {Ready: 3, Due: 9}}, 1, []int{7, 3, 4}},
		{[]plate.Task{{Ready: 9999, Due: 9999}, {Ready: 500, Due: 700}}, 1, []int{9999, 500}},
		{[]plate.Task{{Ready: 9998, Due: 9999}, {Ready: 9998, Due: 9999}}, 1, []int{9998, 9999}},
		{[]plate.Task{{Ready: 9999, Due: 9999}, {Ready: 9999, Due: 9999}}, 1, nil},
		{same(8, 4, 4), 8, []int{4, 4, 4, 4, 4, 4, 4, 4}},
		{same(9, 4, 4), 8, nil},
		// The one with the latest Due is the late one here, and the first in the list.
		{[]plate.Task{{Due: 2}, {Due: 1}, {Due: 1}, {Due: 1}}, 1, nil},
	} {
		l, e := plate.Expose(c.l, c.setters)
		if c.want == nil && (e != api.ErrTime || l != nil) || c.want != nil && (e != api.OK || !slices.Equal(l, c.want)) {
			t.Error(i, l, e)
		}
	}
}

// P4.1: as many tasks as there can be, each in its slot.
func TestExposeMany(t *testing.T) {
	l := same(200, 9800, 9999)
	slots, e := plate.Expose(l, 1)
	for i, slot := range slots {
		if slot != 9800+i {
			t.Fatal(slots)
		}
	}
	if e != api.OK || len(slots) != 200 {
		t.Error(slots, e)
	}
	if slots, e := plate.Expose(same(200, 9801, 9999), 1); e != api.ErrTime || slots != nil {
		t.Error(slots, e)
	}
}

// P4.1: what is a schedule, and what is not.
func TestVerify(t *testing.T) {
	l := []plate.Task{{Ready: 2, Due: 4}, {Ready: 3, Due: 3}, {Due: 9999}}
	for i, c := range []struct {
		setters int
		slots   []int
		want    api.Errno
	}{
		{1, []int{2, 3, 0}, api.OK},
		{1, []int{4, 3, 9999}, api.OK},
		{1, []int{3, 3, 0}, api.ErrFalse},
		{2, []int{3, 3, 0}, api.OK},
		{2, []int{3, 3, 3}, api.ErrFalse},
		{3, []int{3, 3, 3}, api.OK},
		{1, []int{2, 3, 3}, api.ErrFalse},
		{8, []int{1, 3, 0}, api.ErrFalse},
		{8, []int{5, 3, 0}, api.ErrFalse},
		{8, []int{2, 2, 0}, api.ErrFalse},
		{8, []int{2, 4, 0}, api.ErrFalse},
		{8, []int{2, 3, -1}, api.ErrFalse},
		{8, []int{2, 3, 10000}, api.ErrFalse},
		{8, []int{2, 3, math.MinInt}, api.ErrFalse},
		{8, []int{2, 3, math.MaxInt}, api.ErrFalse},
		{8, nil, api.ErrFalse},
		{8, []int{}, api.ErrFalse},
		{8, []int{2, 3}, api.ErrFalse},
		{8, []int{2, 3, 0, 0}, api.ErrFalse},
	} {
		if e := plate.Verify(l, c.setters, c.slots); e != c.want {
			t.Error(i, e)
		}
	}
	if e := plate.Verify(nil, 1, []int{0}); e != api.ErrFalse {
		t.Error(e)
	}
	if e := plate.Verify([]plate.Task{}, 1, []int{}); e != api.OK {
		t.Error(e)
	}
}

// P4.1, P4.5: Expose returns the schedule by due slots, if any schedule exists, and Verify accepts just schedules.
func TestAnyExpose(t *testing.T) {
	rnd := rand.New(rand.NewSource(1))
	in, late, right, wrong := 0, 0, 0, 0
	for range 4000 {
		l, setters := anyTasks(rnd)
		slots, e := plate.Expose(l, setters)
		if matched(l, setters) == len(l) {
			in++
			if e != api.OK || !slices.Equal(slots, exposed(l, setters)) || plate.Verify(l, setters, slots) != api.OK {
				t.Errorf("%v %v: %v %v", slots, e, l, setters)
			}
		} else {
			late++
			if e != api.ErrTime || slots != nil {
				t.Errorf("%v %v: %v %v", slots, e, l, setters)
			}
		}
		others := make([]int, len(l))
		for i, task := range l {
			others[i] = task.Ready + rnd.Intn(task.Due-task.Ready+1)
			if rnd.Intn(30) == 0 {
				others[i] += rnd.Intn(3) - 1
			}
		}
		if isSchedule(l, setters, others) {
			right++
			if e := plate.Verify(l, setters, others); e != api.OK {
				t.Errorf("%v %v: %v %v", others, e, l, setters)
			}
		} else {
			wrong++
			if e := plate.Verify(l, setters, others); e != api.ErrFalse {
				t.Errorf("%v %v: %v %v", others, e, l, setters)
			}
		}
	}
	if in < 500 || late < 500 || right < 500 || wrong < 500 {
		t.Error(in, late, right, wrong)
	}
}

// isSchedule reports whether slots, one for each task, are a schedule.
func isSchedule(l []plate.Task, setters int, slots []int) bool {
	for i, slot := range slots {
		tasks := 0
		for _, other := range slots {
			if other == slot {
				tasks++
			}
		}
		if tasks > setters || slot < l[i].Ready || l[i].Due < slot {
			return false
		}
	}
	return true
}

package press_test

import (
	"math"
	"reflect"
	"slices"
	"testing"

	"foldhouse/api"
	"foldhouse/press"
)

// pressCase is a press with an error, or without one.
type pressCase struct {
	name string
	p    press.Press
	want api.Errno
}

func pressCases() []pressCase {
	cases := []pressCase{
		{"zero press", press.Press{}, api.ErrMany},
		{"no towers", press.Press{Jammed: []bool{}}, api.ErrMany},
		{"four towers", jammed(4, 0), api.ErrMany},
		{"many before a number", press.Press{Warm: -1}, api.ErrMany},
		{"too many before a number", press.Press{Jammed: make([]bool, 4), Dirt: -1}, api.ErrMany},
		{"a tower", jammed(1, 1), api.OK},
		{"two towers", jammed(2, 1), api.OK},
		{"three towers", jammed(3, 1), api.OK},
	}
	for _, n := range []int{math.MinInt, -1, 0, 1, 9999, 10000, 10001, math.MaxInt} {
		want := api.OK
		if n < 0 || n > 10000 {
			want = api.ErrPress
		}
		for i, p := range []press.Press{{Warm: n}, {Tail: n}, {Dirt: n}} {
			p.Jammed = make([]bool, 1+i)
			cases = append(cases, pressCase{"a number", p, want})
		}
	}
	return cases
}

// stateCase is a state of a press with two towers: the error that Safe has for it, and whether it is safe.
type stateCase struct {
	name string
	s    press.State
	want api.Errno
	safe bool
}

func units(l ...press.Unit) []press.Unit { return l }

// numberCases have numbers that are allowed, or not.
func numberCases() []stateCase {
	runs := func(fresh, inked int) press.State {
		return press.State{Drive: press.Running, Fresh: fresh, Units: units(press.Unit{}, press.Unit{Threaded: true, Clean: true, Pressed: true, Inked: inked})}
	}
	inked := func(n int) press.State { return press.State{Units: units(press.Unit{}, press.Unit{Inked: n})} }
	cases := []stateCase{
		{"zero state", press.State{}, api.ErrState, false},
		{"no units", press.State{Units: units()}, api.ErrState, false},
		{"a unit too few", begin(1), api.ErrState, false},
		{"a unit too many", begin(3), api.ErrState, false},
		{"the beginning", begin(2), api.OK, true},
		{"fresh of a press that stands", press.State{Units: make([]press.Unit, 2), Fresh: 1}, api.ErrState, false},
		{"fresh of a press that crawls", press.State{Drive: press.Crawling, Units: make([]press.Unit, 2), Fresh: 1}, api.ErrState, false},
		{"a number before what is not safe", press.State{Drive: press.Crawling, Folder: true, Units: make([]press.Unit, 2), Fresh: 1}, api.ErrState, false},
	}
	for _, n := range []int{math.MinInt, -1, 0, 1, 1000000, 1000001, math.MaxInt} {
		want := api.OK
		if n < 0 || n > 1000000 {
			want = api.ErrState
		}
		for _, s := range []press.State{runs(n, 0), runs(0, n), inked(n)} {
			cases = append(cases, stateCase{"a number", s, want, want == api.OK})
		}
	}
	for _, n := range []int{math.MinInt, -1, 3, 4, math.MaxInt} {
		cases = append(cases, stateCase{"drive", press.State{Drive: n, Units: make([]press.Unit, 2)}, api.ErrState, false})
	}
	return cases
}

// safetyCases are states whose numbers are allowed.
func safetyCases() []stateCase {
	web, clean, pressed := press.Unit{Threaded: true}, press.Unit{Clean: true}, press.Unit{Threaded: true, Pressed: true}
	state := func(drive int, folder bool, l ...press.Unit) press.State {
		return press.State{Drive: drive, Folder: folder, Units: l}
	}
	return []stateCase{
		{"open and stopped", state(press.Stopped, true, press.Unit{Open: true}, press.Unit{Open: true, Threaded: true}), api.OK, true},
		{"crawls", state(press.Crawling, false, web, clean), api.OK, true},
		{"crawls against the folder", state(press.Crawling, true, web, clean), api.OK, false},
		{"crawls against a tower", state(press.Crawling, false, web, press.Unit{Open: true}), api.OK, false},
		{"runs against the folder", state(press.Running, true, pressed, clean), api.OK, false},
		{"runs against a tower", state(press.Running, false, pressed, press.Unit{Open: true}), api.OK, false},
		{"pressed without a web", state(press.Crawling, false, web, press.Unit{Clean: true, Pressed: true}), api.OK, false},
		{"pressed without a web, and runs", state(press.Running, false, pressed, press.Unit{Clean: true, Pressed: true}), api.OK, false},
		{"pressed and stopped", state(press.Stopped, false, pressed, clean), api.OK, false},
		{"pressed and crawls", state(press.Crawling, false, clean, pressed), api.OK, true},
		{"runs", state(press.Running, false, clean, pressed), api.OK, true},
		{"runs without an impression", state(press.Running, false, web, web), api.OK, false},
	}
}

func stateCases() []stateCase { return slices.Concat(numberCases(), safetyCases()) }

// P7.1: the error of a press.
func TestCheck(t *testing.T) {
	for _, c := range pressCases() {
		if e := press.Check(c.p); e != c.want {
			t.Error(c.name, c.p, e)
		}
	}
}

// P7.1: the beginning.
func TestBegin(t *testing.T) {
	for _, c := range pressCases() {
		want := press.State{}
		if c.want == api.OK {
			want = begin(len(c.p.Jammed))
		}
		if s, e := press.Begin(c.p); !reflect.DeepEqual(s, want) || e != c.want {
			t.Error(c.name, s, e)
		}
	}
}

// expectError checks that all functions that take a state have an error, and no other result.
func expectError(t *testing.T, p press.Press, s press.State, want api.Errno) {
	t.Helper()
	many := make([]press.Action, press.MaxProgram+1)
	s1, e1 := press.Do(p, s, press.Action{})
	s2, n2, e2 := press.Program(p, s, many)
	s3, n3, e3 := press.Break(p, s, -1)
	s4, l4, e4 := press.Print(p, s, -1)
	n5, e5 := press.Code(p, s)
	l6, e6 := press.Find(p, s, press.Goal{})
	e7 := press.Verify(p, s, press.Goal{}, many)
	l8, e8 := press.Closed(p, s)
	e9 := press.Refute(p, s, press.Goal{}, make([]int, 30001))
	for i, e := range []api.Errno{e1, e2, e3, e4, e5, e6, e7, e8, e9} {
		if e != want {
			t.Error(i, p, s, e, want)
		}
	}
	for i, s := range []press.State{s1, s2, s3, s4} {
		if !reflect.DeepEqual(s, press.State{}) {
			t.Error(i, s)
		}
	}
	if n2 != 0 || n3 != 0 || l4 != nil || n5 != 0 || l6 != nil || l8 != nil {
		t.Error(n2, n3, l4, n5, l6, l8)
	}
}

// P7.1: all functions return the error of a press first.
func TestErrorOfPress(t *testing.T) {
	for _, c := range pressCases() {
		if c.want == api.OK {
			continue
		}
		for _, s := range []press.State{{}, begin(len(c.p.Jammed))} {
			expectError(t, c.p, s, c.want)
			if is, e := press.Safe(c.p, s); is || e != c.want {
				t.Error(c.name, is, e)
			}
		}
	}
}

// P7.1: the functions that take a state return its error then; Safe says of an unsafe one that it is.
func TestErrorOfState(t *testing.T) {
	p := jammed(2, 0)
	for _, c := range stateCases() {
		if is, e := press.Safe(p, c.s); is != c.safe || e != c.want {
			t.Error(c.name, c.s, is, e)
		}
		if !c.safe {
			expectError(t, p, c.s, api.ErrState)
		} else if n, e := press.Code(p, c.s); n != codeOf(c.s) || e != api.OK {
			t.Error(c.name, c.s, n, e)
		}
	}
}

// P7.1: the codes of some situations.
func TestCodes(t *testing.T) {
	for _, c := range []struct {
		s    press.State
		want int
	}{
		{begin(1), 0},
		{press.State{Drive: press.Crawling, Units: units(press.Unit{Inked: 7})}, 1},
		{press.State{Folder: true, Units: make([]press.Unit, 2)}, 3},
		{press.State{Units: units(press.Unit{Open: true})}, 6},
		{press.State{Units: units(press.Unit{Threaded: true})}, 12},
		{press.State{Units: units(press.Unit{Clean: true})}, 24},
		{press.State{Drive: press.Running, Units: units(press.Unit{Threaded: true, Pressed: true}), Fresh: 9}, 2 + 6*10},
		{press.State{Units: units(press.Unit{}, press.Unit{Open: true})}, 6 * 16},
		{press.State{Units: units(press.Unit{}, press.Unit{}, press.Unit{Open: true})}, 6 * 256},
		{press.State{Folder: true, Units: units(press.Unit{Open: true}, press.Unit{Threaded: true}, press.Unit{Clean: true})}, 3 + 6*(1+16*2+256*4)},
		{press.State{Drive: press.Running, Units: slices.Repeat(units(press.Unit{Threaded: true, Clean: true, Pressed: true}), 3)}, 2 + 6*14*273},
	} {
		if n, e := press.Code(jammed(len(c.s.Units), 0), c.s); n != c.want || e != api.OK {
			t.Error(c.s, n, e)
		}
	}
}

// P7.1: all situations.
func TestEverySituation(t *testing.T) {
	for towers, want := range map[int]int{1: 16 + 6 + 2, 2: 128 + 36 + 20, 3: 1024 + 216 + 152} {
		p := jammed(towers, 0)
		count := 0
		for code := range codesOf(towers) {
			s := at(code, towers)
			is, e := press.Safe(p, s)
			if is != isSafe(s) || e != api.OK {
				t.Error(s, is, e)
			}
			n, e := press.Code(p, s)
			if is && (n != code || e != api.OK) || !is && (n != 0 || e != api.ErrState) {
				t.Error(s, n, e)
			}
			if is {
				count++
			}
		}
		if count != want {
			t.Error(towers, count)
		}
	}
}

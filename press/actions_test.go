package press_test

import (
	"math"
	"math/rand"
	"reflect"
	"slices"
	"testing"

	"foldhouse/api"
	"foldhouse/press"
)

// expectDo checks an action against the chapter's table.
func expectDo(t *testing.T, p press.Press, s press.State, a press.Action) {
	t.Helper()
	want, code := press.State{}, errorOf(p, s, a)
	if code == api.OK {
		want = then(s, a)
	}
	next, e := press.Do(p, s, a)
	if !reflect.DeepEqual(next, want) || e != code {
		t.Fatalf("%+v %+v %+v: %+v %v, not %+v %v", p, s, a, next, e, want, code)
	}
	if e == api.OK && !isSafe(next) {
		t.Fatal("not safe", p, s, a, next)
	}
}

// P7.2, P7.5: each action in each situation does what the table says, and leads to a safe state.
func TestEveryAction(t *testing.T) {
	rnd := rand.New(rand.NewSource(72))
	for towers := 1; towers <= 3; towers++ {
		for bits := range 1 << towers {
			if towers == 3 && bits != 0 && bits != 5 {
				continue
			}
			p := jammed(towers, bits)
			for _, s := range safe(towers) {
				s = inked(rnd, s)
				for kind := -1; kind <= press.Cut+1; kind++ {
					for unit := -1; unit <= towers; unit++ {
						expectDo(t, p, s, act(kind, unit))
					}
				}
			}
		}
	}
}

// P7.2: numbers that name no action, and no tower.
func TestActionErrors(t *testing.T) {
	p, s := jammed(2, 0), begin(2)
	for _, n := range []int{math.MinInt, -1, 0, 13, 100, math.MaxInt} {
		for _, unit := range []int{0, n} {
			if next, e := press.Do(p, s, act(n, unit)); e != api.ErrCommand || next.Units != nil {
				t.Error(n, unit, next, e)
			}
		}
	}
	for kind := press.Open; kind <= press.Cut; kind++ {
		for _, unit := range []int{math.MinInt, -1, 2, math.MaxInt} {
			if next, e := press.Do(p, s, act(kind, unit)); e != api.ErrArg || next.Units != nil {
				t.Error(kind, unit, next, e)
			}
		}
	}
	for kind := press.Crawl; kind <= press.Lock; kind++ {
		if next, e := press.Do(p, s, act(kind, 1)); e != api.ErrArg || next.Units != nil {
			t.Error(kind, next, e)
		}
	}
}

// P7.2: what actions do to the numbers of a state.
func TestNumbers(t *testing.T) {
	p := jammed(2, 0)
	ready := press.Unit{Threaded: true, Clean: true, Inked: 8}
	s := press.State{Drive: press.Running, Fresh: 9, Units: units(ready, ready)}
	s.Units[0].Pressed, s.Units[1].Pressed = true, true
	s, e := press.Do(p, s, act(press.Off, 1))
	if e != api.OK || s.Fresh != 9 || s.Units[1] != ready {
		t.Error("an impression that goes off leaves Fresh", s, e)
	}
	s, e = press.Do(p, s, act(press.Crawl))
	if e != api.OK || s.Fresh != 0 || s.Units[0].Inked != 8 {
		t.Error("a press that crawls prints no more", s, e)
	}
	s.Units[1] = press.Unit{Clean: true, Inked: 8}
	s, e = press.Do(p, s, act(press.Wash, 1))
	if e != api.OK || s.Units[1] != (press.Unit{Clean: true}) || s.Units[0].Inked != 8 {
		t.Error("what is clean is washed, too", s, e)
	}
}

// program returns a program of actions that can be carried out for ever.
func program(n int) []press.Action {
	var l []press.Action
	for range n {
		l = append(l, []press.Action{act(press.Unlock), act(press.Lock)}[len(l)%2])
	}
	return l
}

// P7.2: programs, and how far they come.
func TestProgram(t *testing.T) {
	p := jammed(1, 0)
	for _, c := range []struct {
		l    []press.Action
		n    int
		code api.Errno
		want press.State
	}{
		{nil, 0, api.OK, begin(1)},
		{[]press.Action{}, 0, api.OK, begin(1)},
		{[]press.Action{act(0)}, 0, api.ErrCommand, begin(1)},
		{[]press.Action{act(press.Crawl), act(press.Unlock)}, 1, api.ErrGuard, press.State{Drive: press.Crawling, Units: units(press.Unit{})}},
		{[]press.Action{act(press.Crawl), act(press.Wash), act(press.Wash, 1), act(press.Thread)}, 2, api.ErrArg, press.State{Drive: press.Crawling, Units: units(press.Unit{Clean: true})}},
		{[]press.Action{act(press.Open), act(press.Unlock), act(13, 9)}, 2, api.ErrCommand, press.State{Folder: true, Units: units(press.Unit{Open: true})}},
		{program(199), 199, api.OK, press.State{Folder: true, Units: units(press.Unit{})}},
		{program(200), 200, api.OK, begin(1)},
		{program(201), 0, api.ErrMany, press.State{}},
		{append(program(200), act(0)), 0, api.ErrMany, press.State{}},
		{append(program(199), act(0)), 199, api.ErrCommand, press.State{Folder: true, Units: units(press.Unit{})}},
	} {
		s, n, e := press.Program(p, begin(1), c.l)
		if !reflect.DeepEqual(s, c.want) || n != c.n || e != c.code {
			t.Error(len(c.l), s, n, e)
		}
	}
}

// P7.2: a program does what its actions do.
func TestAnyProgram(t *testing.T) {
	rnd := rand.New(rand.NewSource(720))
	every := [][]press.State{safe(1), safe(2), safe(3)}
	for range 1000 {
		towers := 1 + rnd.Intn(3)
		p := jammed(towers, rnd.Intn(1<<towers))
		all := every[towers-1]
		start := inked(rnd, all[rnd.Intn(len(all))])
		s, code := start, api.OK
		var l []press.Action
		for range rnd.Intn(30) {
			possible := slices.DeleteFunc(everyAction(towers), func(a press.Action) bool { return !may(p, s, a) })
			a := possible[rnd.Intn(len(possible))]
			l = append(l, a)
			s = then(s, a)
		}
		n := len(l)
		if rnd.Intn(2) == 0 {
			a := act(rnd.Intn(14), rnd.Intn(4))
			if code = errorOf(p, s, a); code != api.OK {
				l = append(l, a, act(press.Close), act(press.Open))
			}
		}
		if got, m, e := press.Program(p, start, l); !reflect.DeepEqual(got, s) || m != n || e != code {
			t.Fatal(p, start, l, got, m, e)
		}
	}
}

// P7.2: a break of each web in each situation.
func TestBreak(t *testing.T) {
	rnd := rand.New(rand.NewSource(27))
	for towers := 1; towers <= 3; towers++ {
		p := jammed(towers, 1)
		for _, s := range safe(towers) {
			s = inked(rnd, s)
			for unit, u := range s.Units {
				want, lost, code := press.State{}, 0, api.ErrGuard
				if s.Drive != press.Stopped && u.Threaded {
					want, lost, code = clone(s), min(4, s.Fresh), api.OK
					want.Drive, want.Fresh = press.Stopped, 0
					for i := range want.Units {
						want.Units[i].Pressed = false
					}
					want.Units[unit].Threaded, want.Units[unit].Clean = false, false
				}
				got, n, e := press.Break(p, s, unit)
				if !reflect.DeepEqual(got, want) || n != lost || e != code || e == api.OK && !isSafe(got) {
					t.Fatal(p, s, unit, got, n, e)
				}
			}
			for _, unit := range []int{math.MinInt, -1, towers, math.MaxInt} {
				if got, n, e := press.Break(p, s, unit); got.Units != nil || n != 0 || e != api.ErrArg {
					t.Fatal(s, unit, got, n, e)
				}
			}
		}
	}
}

// P7.2: the copies that a break loses.
func TestLost(t *testing.T) {
	for _, c := range []struct{ tail, fresh, want int }{{0, 0, 0}, {0, 5, 0}, {5, 0, 0}, {5, 4, 4}, {5, 5, 5}, {5, 6, 5}, {10000, 1000000, 10000}} {
		p := press.Press{Jammed: make([]bool, 1), Tail: c.tail}
		s := press.State{Drive: press.Running, Fresh: c.fresh, Units: units(press.Unit{Threaded: true, Clean: true, Pressed: true, Inked: 7})}
		got, n, e := press.Break(p, s, 0)
		if n != c.want || e != api.OK || got.Units[0] != (press.Unit{Inked: 7}) || got.Drive != press.Stopped || got.Fresh != 0 {
			t.Error(c, got, n, e)
		}
	}
}

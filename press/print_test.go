package press_test

import (
	"math"
	"math/rand"
	"reflect"
	"slices"
	"testing"

	"foldhouse/api"
	"foldhouse/press"
)

// runs returns the state of a press that runs, with towers that are Pressed and have so many copies.
func runs(fresh int, inked ...int) press.State {
	s := press.State{Drive: press.Running, Fresh: fresh}
	for _, n := range inked {
		s.Units = append(s.Units, press.Unit{Threaded: true, Clean: true, Pressed: true, Inked: n})
	}
	return s
}

// counted returns a press with a number of towers.
func counted(towers, warm, dirt int) press.Press {
	return press.Press{Jammed: make([]bool, towers), Warm: warm, Dirt: dirt}
}

func warm(from, to int) press.Waste {
	return press.Waste{Cause: press.ByWarm, From: from, To: to}
}

func dirt(from, to int) press.Waste {
	return press.Waste{Cause: press.ByDirt, From: from, To: to}
}

// P7.2: waste by its causes.
func TestWaste(t *testing.T) {
	for i, c := range []struct {
		p      press.Press
		s      press.State
		copies int
		want   []press.Waste
	}{
		{counted(1, 3, 5), runs(0, 0), 8, []press.Waste{warm(0, 2), dirt(5, 7)}},
		{counted(1, 3, 5), runs(0, 0), 0, nil},
		{counted(1, 3, 5), runs(0, 0), 1, []press.Waste{warm(0, 0)}},
		{counted(1, 3, 5), runs(0, 0), 3, []press.Waste{warm(0, 2)}},
		{counted(1, 3, 5), runs(0, 0), 5, []press.Waste{warm(0, 2)}},
		{counted(1, 3, 5), runs(0, 0), 6, []press.Waste{warm(0, 2), dirt(5, 5)}},
		{counted(1, 3, 5), runs(2, 2), 8, []press.Waste{warm(0, 0), dirt(3, 7)}},
		{counted(1, 3, 5), runs(3, 3), 2, nil},
		{counted(1, 3, 5), runs(4, 0), 5, nil},
		{counted(1, 3, 5), runs(0, 9), 8, []press.Waste{warm(0, 2), dirt(3, 7)}},
		{counted(1, 3, 5), runs(0, 2), 8, []press.Waste{warm(0, 2), dirt(3, 7)}},
		{counted(1, 3, 5), runs(0, 9), 3, []press.Waste{warm(0, 2)}},
		{counted(1, 0, 0), runs(0, 0), 4, []press.Waste{dirt(0, 3)}},
		{counted(1, 2, 0), runs(0, 0), 4, []press.Waste{warm(0, 1), dirt(2, 3)}},
		{counted(1, 0, 4), runs(0, 0), 4, nil},
		{counted(2, 0, 4), runs(0, 1, 2), 4, []press.Waste{dirt(2, 3)}},
		{counted(3, 1, 9), runs(0, 3, 8, 4), 4, []press.Waste{warm(0, 0), dirt(1, 3)}},
		{counted(1, 10000, 10000), runs(0, 0), 1000000, []press.Waste{warm(0, 9999), dirt(10000, 999999)}},
	} {
		if _, l, e := press.Print(c.p, c.s, c.copies); !slices.Equal(l, c.want) || e != api.OK {
			t.Error(i, l, e)
		}
	}
}

// P7.2: a tower that is not Pressed prints nothing, and spoils nothing.
func TestIdleTower(t *testing.T) {
	p, s := counted(2, 0, 5), runs(7, 0, 1000000)
	s.Units[1].Pressed = false
	got, l, e := press.Print(p, s, 5)
	if e != api.OK || l != nil || got.Fresh != 12 || got.Units[0].Inked != 5 || got.Units[1].Inked != 1000000 || got.Drive != press.Running {
		t.Error(got, l, e)
	}
}

// P7.2: the errors of Print.
func TestPrintErrors(t *testing.T) {
	crawls := press.State{Drive: press.Crawling, Units: runs(0, 1000000).Units}
	idle := runs(0, 0, 1000000)
	idle.Units[1].Pressed = false
	stands := press.State{Units: units(press.Unit{Inked: 1000000})}
	for i, c := range []struct {
		s      press.State
		copies int
		want   api.Errno
	}{
		{begin(1), math.MinInt, api.ErrRange},
		{begin(1), -1, api.ErrRange},
		{begin(1), 0, api.ErrGuard},
		{begin(1), 1000000, api.ErrGuard},
		{begin(1), 1000001, api.ErrRange},
		{begin(1), math.MaxInt, api.ErrRange},
		{runs(0, 0), -1, api.ErrRange},
		{runs(0, 0), 1000000, api.OK},
		{runs(0, 0), 1000001, api.ErrRange},
		{runs(0, 0), math.MaxInt, api.ErrRange},
		{runs(1, 0), 999999, api.OK},
		{runs(1, 0), 1000000, api.ErrRange},
		{runs(0, 1), 999999, api.OK},
		{runs(0, 1), 1000000, api.ErrRange},
		{runs(0, 0, 0, 1), 1000000, api.ErrRange},
		{runs(1000000, 1000000), 0, api.OK},
		{runs(1000000, 1000000), 1, api.ErrRange},
		{idle, 1000000, api.OK},
		{crawls, 0, api.ErrGuard},
		{crawls, 1, api.ErrRange},
		{stands, 1000000, api.ErrGuard},
	} {
		got, l, e := press.Print(counted(len(c.s.Units), 0, 0), c.s, c.copies)
		if e != c.want || e != api.OK && (l != nil || !reflect.DeepEqual(got, press.State{})) {
			t.Error(i, got, l, e)
		}
	}
}

// causes prints copies one after the other, by the words of the chapter.
func causes(p press.Press, s press.State, copies int) (press.State, []int) {
	s = clone(s)
	var l []int
	for range copies {
		cause := 0
		for i, u := range s.Units {
			if u.Pressed && u.Inked >= p.Dirt {
				cause = press.ByDirt
			}
			if u.Pressed {
				s.Units[i].Inked++
			}
		}
		if s.Fresh < p.Warm {
			cause = press.ByWarm
		}
		s.Fresh++
		l = append(l, cause)
	}
	return s, l
}

// spansOf returns the spans of waste of copies.
func spansOf(causes []int) []press.Waste {
	var l []press.Waste
	for i, cause := range causes {
		if cause == 0 {
			continue
		}
		if i > 0 && causes[i-1] == cause {
			l[len(l)-1].To = i
		} else {
			l = append(l, press.Waste{Cause: cause, From: i, To: i})
		}
	}
	return l
}

// P7.2, P7.5: waste is that of the copies one by one, each by one cause.
func TestAnyPrint(t *testing.T) {
	rnd := rand.New(rand.NewSource(722))
	var running [][]press.State
	for towers := 1; towers <= 3; towers++ {
		running = append(running, slices.DeleteFunc(safe(towers), func(s press.State) bool { return s.Drive != press.Running }))
	}
	for range 5000 {
		towers := 1 + rnd.Intn(3)
		all := running[towers-1]
		p := counted(towers, rnd.Intn(15), rnd.Intn(25))
		s := inked(rnd, all[rnd.Intn(len(all))])
		copies := rnd.Intn(40)
		want, l := causes(p, s, copies)
		got, waste, e := press.Print(p, s, copies)
		if !reflect.DeepEqual(got, want) || !slices.Equal(waste, spansOf(l)) || e != api.OK || !isSafe(got) {
			t.Fatal(p, s, copies, got, waste, e)
		}
	}
}

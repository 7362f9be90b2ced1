package press_test

import (
	"math/rand"
	"slices"

	"foldhouse/api"
	"foldhouse/press"
)

// begin returns the beginning of a press with some towers.
func begin(towers int) press.State { return press.State{Units: make([]press.Unit, towers)} }

// jammed returns a press with some towers, of which those whose bit is set are Jammed.
func jammed(towers, bits int) press.Press {
	p := press.Press{Warm: 3, Tail: 4, Dirt: 5}
	for i := range towers {
		p.Jammed = append(p.Jammed, bits>>i&1 == 1)
	}
	return p
}

// act returns an action; the Unit is 0 if none is given.
func act(kind int, unit ...int) press.Action {
	return press.Action{Kind: kind, Unit: append(unit, 0)[0]}
}

// printing is the goal to print with some towers.
func printing(on ...bool) press.Goal { return press.Goal{Drive: press.Running, Pressed: on} }

// at returns the state with a code, by the words of the chapter.
func at(code, towers int) press.State {
	s := press.State{Drive: code % 3, Folder: code/3%2 == 1}
	c := code / 6
	for range towers {
		s.Units = append(s.Units, press.Unit{Open: c&1 != 0, Threaded: c&2 != 0, Clean: c&4 != 0, Pressed: c&8 != 0})
		c /= 16
	}
	return s
}

// codeOf returns the code of a state, by the words of the chapter.
func codeOf(s press.State) int {
	n, weight := 0, 1
	count := func(is bool, value int) {
		if is {
			n += value
		}
	}
	for _, u := range s.Units {
		count(u.Open, 2*weight)
		count(u.Threaded, 4*weight)
		count(u.Clean, 8*weight)
		count(u.Pressed, 16*weight)
		weight *= 16
	}
	count(s.Folder, 1)
	return s.Drive + 3*n
}

// codesOf returns how many codes there are.
func codesOf(towers int) int { return 6 << (4 * towers) }

func clone(s press.State) press.State {
	s.Units = slices.Clone(s.Units)
	return s
}

// opened reports whether a guard is open.
func opened(s press.State) bool {
	is := s.Folder
	for _, u := range s.Units {
		is = is || u.Open
	}
	return is
}

// on returns how many towers are Pressed.
func on(s press.State) int {
	n := 0
	for _, u := range s.Units {
		if u.Pressed {
			n++
		}
	}
	return n
}

// isSafe is the definition of the chapter.
func isSafe(s press.State) bool {
	if !(s.Drive == press.Stopped || !opened(s)) {
		return false
	}
	for _, u := range s.Units {
		if u.Pressed && (!u.Threaded || s.Drive == press.Stopped) {
			return false
		}
	}
	return s.Drive != press.Running || on(s) > 0
}

// safe returns all states without copies that are safe, by their codes.
func safe(towers int) []press.State {
	var l []press.State
	for code := range codesOf(towers) {
		if s := at(code, towers); isSafe(s) {
			l = append(l, s)
		}
	}
	return l
}

// everyAction returns all actions, by Kind and then Unit.
func everyAction(towers int) []press.Action {
	var l []press.Action
	for kind := press.Open; kind <= press.Cut; kind++ {
		for unit := range towers {
			if unit == 0 || kind <= press.Off || kind == press.Cut {
				l = append(l, act(kind, unit))
			}
		}
	}
	return l
}

// may is the column "allowed if" of the chapter's table.
func may(p press.Press, s press.State, a press.Action) bool {
	u := s.Units[a.Unit]
	stopped, crawling, running := s.Drive == press.Stopped, s.Drive == press.Crawling, s.Drive == press.Running
	switch a.Kind {
	case press.Open:
		return stopped && !u.Open
	case press.Close:
		return u.Open
	case press.Thread:
		return crawling && !u.Threaded
	case press.Wash:
		return crawling && !u.Threaded && !p.Jammed[a.Unit]
	case press.On:
		return !stopped && u.Threaded && u.Clean && !u.Pressed
	case press.Off:
		return u.Pressed && (!running || on(s) >= 2)
	case press.Crawl:
		return !crawling && !opened(s)
	case press.Run:
		return crawling && on(s) > 0
	case press.Stop:
		return !stopped && on(s) == 0
	case press.Unlock:
		return stopped && !s.Folder
	case press.Lock:
		return s.Folder
	}
	return stopped && u.Open && u.Threaded
}

// then is the column "then" of the chapter's table.
func then(s press.State, a press.Action) press.State {
	s = clone(s)
	u := &s.Units[a.Unit]
	switch a.Kind {
	case press.Open:
		u.Open = true
	case press.Close:
		u.Open = false
	case press.Thread:
		u.Threaded = true
	case press.Wash:
		u.Clean, u.Inked = true, 0
	case press.On:
		u.Pressed = true
	case press.Off:
		u.Pressed = false
	case press.Crawl:
		s.Drive, s.Fresh = press.Crawling, 0
	case press.Run:
		s.Drive, s.Fresh = press.Running, 0
	case press.Stop:
		s.Drive = press.Stopped
	case press.Unlock:
		s.Folder = true
	case press.Lock:
		s.Folder = false
	case press.Cut:
		u.Threaded = false
	}
	return s
}

// errorOf returns the error of an action.
func errorOf(p press.Press, s press.State, a press.Action) api.Errno {
	units := len(s.Units)
	if press.Crawl <= a.Kind && a.Kind <= press.Lock {
		units = 1
	}
	switch {
	case a.Kind < press.Open || a.Kind > press.Cut:
		return api.ErrCommand
	case a.Unit < 0 || a.Unit >= units:
		return api.ErrArg
	case !may(p, s, a):
		return api.ErrGuard
	}
	return api.OK
}

// isMet reports whether a state fulfils a goal.
func isMet(s press.State, g press.Goal) bool {
	is := s.Drive == g.Drive
	for i, u := range s.Units {
		is = is && u.Pressed == g.Pressed[i]
	}
	return is
}

// goals returns all goals.
func goals(towers int) []press.Goal {
	var l []press.Goal
	for drive := press.Stopped; drive <= press.Running; drive++ {
		for bits := range 1 << towers {
			l = append(l, press.Goal{Drive: drive, Pressed: jammed(towers, bits).Jammed})
		}
	}
	return l
}

// inked gives a state some copies that were printed.
func inked(rnd *rand.Rand, s press.State) press.State {
	s = clone(s)
	for i := range s.Units {
		s.Units[i].Inked = rnd.Intn(12)
	}
	if s.Drive == press.Running {
		s.Fresh = rnd.Intn(12)
	}
	return s
}

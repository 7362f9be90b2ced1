package press

import (
	"iter"
	"slices"

	"foldhouse/api"
)

// working is a press at work: a press in a state, with the rules of its actions.
type working struct {
	Press
	State
	rules map[int]rule
}

// within reports whether a number is from lo to hi.
func within(n, lo, hi int) bool { return lo <= n && n <= hi }

// place puts a press into a state, which need not be safe. The press at work shares no memory with that state.
func place(p Press, s State) (working, api.Errno) {
	if e := Check(p); e != api.OK {
		return working{}, e
	}
	if len(s.Units) != len(p.Jammed) || !s.hasNumbers() {
		return working{}, api.ErrState
	}
	s.Units = slices.Clone(s.Units)
	return working{Press: p, State: s, rules: rules()}, api.OK
}

// placeSafely puts a press into a safe state.
func placeSafely(p Press, s State) (working, api.Errno) {
	w, e := place(p, s)
	if e != api.OK {
		return working{}, e
	}
	if !w.isSafe() {
		return working{}, api.ErrState
	}
	return w, api.OK
}

// placeFor puts a press into a safe state from which a goal is to be fulfilled.
func placeFor(p Press, s State, g Goal) (working, api.Errno) {
	w, e := placeSafely(p, s)
	if e != api.OK {
		return working{}, e
	}
	if len(g.Pressed) != len(w.Units) || !isDrive(g.Drive) {
		return working{}, api.ErrArg
	}
	return w, api.OK
}

// do returns the press after an action.
func (w working) do(a Action) (working, api.Errno) {
	r, is := w.rules[a.Kind]
	if !is {
		return working{}, api.ErrCommand
	}
	if !within(a.Unit, 0, r.units(w)-1) {
		return working{}, api.ErrArg
	}
	if !r.allows(w, a.Unit) {
		return working{}, api.ErrGuard
	}
	return w.after(a), api.OK
}

// doAll returns the press after actions, or after those before one that has an error, and their number.
func (w working) doAll(l []Action) (working, int, api.Errno) {
	for i, a := range l {
		next, e := w.do(a)
		if e != api.OK {
			return w, i, e
		}
		w = next
	}
	return w, len(l), api.OK
}

// after returns the press after an action that is allowed. The press before stays as it is, as a search goes on from there.
func (w working) after(a Action) working {
	w.Units = slices.Clone(w.Units)
	w.rules[a.Kind].acts(&w, a.Unit)
	return w
}

// allowed yields the actions that are allowed, by Kind and then Unit.
func (w working) allowed() iter.Seq[Action] {
	return func(yield func(a Action) bool) {
		for kind := Open; kind <= Cut; kind++ {
			r := w.rules[kind]
			for unit := range r.units(w) {
				if r.allows(w, unit) && !yield(Action{Kind: kind, Unit: unit}) {
					return
				}
			}
		}
	}
}

// tear breaks the web of a tower, and returns how many copies are lost.
func (w *working) tear(unit int) int {
	lost := min(w.Tail, w.Fresh)
	w.Drive, w.Fresh = Stopped, 0
	for i := range w.Units {
		w.Units[i].Pressed = false
	}
	w.Units[unit].Threaded, w.Units[unit].Clean = false, false
	return lost
}

// waste returns the spans of waste of the copies that are printed next.
func (w working) waste(copies int) []Waste {
	var waste []Waste
	add := func(cause, from, end int) {
		if from < end {
			waste = append(waste, Waste{Cause: cause, From: from, To: end - 1})
		}
	}
	warm := max(0, w.Warm-w.Fresh)
	add(ByWarm, 0, min(warm, copies))
	add(ByDirt, max(warm, w.Dirt-w.inked()), copies)
	return waste
}

// count counts copies that are printed.
func (w *working) count(copies int) {
	w.Fresh += copies
	for i, u := range w.Units {
		if u.Pressed {
			w.Units[i].Inked += copies
		}
	}
}

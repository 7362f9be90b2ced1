package press

import "slices"

func isDrive(n int) bool { return within(n, Stopped, Running) }

// hasNumbers reports whether the numbers of a state are allowed.
func (s State) hasNumbers() bool {
	if !isDrive(s.Drive) || !within(s.Fresh, 0, MaxCopies) || s.Fresh > 0 && s.Drive != Running {
		return false
	}
	return !slices.ContainsFunc(s.Units, func(u Unit) bool { return !within(u.Inked, 0, MaxCopies) })
}

// isSafe reports whether nothing moves against an open guard, and impressions are on only where they may be.
func (s State) isSafe() bool {
	if s.Drive != Stopped && s.isOpen() {
		return false
	}
	if s.Drive == Stopped && s.pressed() > 0 || s.Drive == Running && s.pressed() == 0 {
		return false
	}
	return !slices.ContainsFunc(s.Units, func(u Unit) bool { return u.Pressed && !u.Threaded })
}

// isOpen reports whether a guard is open.
func (s State) isOpen() bool {
	return s.Folder || slices.ContainsFunc(s.Units, func(u Unit) bool { return u.Open })
}

// pressed returns how many towers are Pressed.
func (s State) pressed() int {
	n := 0
	for _, u := range s.Units {
		if u.Pressed {
			n++
		}
	}
	return n
}

// inked returns the greatest Inked of the towers that are Pressed, or 0 if none is.
func (s State) inked() int {
	most := 0
	for _, u := range s.Units {
		if u.Pressed {
			most = max(most, u.Inked)
		}
	}
	return most
}

// fulfils reports whether a state is what a goal wants.
func (s State) fulfils(g Goal) bool {
	return s.Drive == g.Drive && slices.EqualFunc(s.Units, g.Pressed, func(u Unit, on bool) bool { return u.Pressed == on })
}

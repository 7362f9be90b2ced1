package works

import (
	"foldhouse/api"
	"foldhouse/press"
)

// start puts the press to the goal of the edition.
func (n *night) start(Order) (int, api.Errno) {
	if !n.hung {
		return 0, api.ErrOrder
	}
	return n.lead(n.goal())
}

// stop stops the press, without an impression.
func (n *night) stop(Order) (int, api.Errno) {
	return n.lead(press.Goal{Drive: press.Stopped, Pressed: make([]bool, len(n.state.Units))})
}

// wash washes the blankets of a tower, whose web is in the way.
func (n *night) wash(o Order) (int, api.Errno) {
	if n.state.Drive != press.Stopped {
		return 0, api.ErrGuard
	}
	return n.drive(func() ([]press.Action, api.Errno) {
		var program []press.Action
		if n.isThreaded(o.N) {
			program = append(program, press.Action{Kind: press.Open, Unit: o.N}, press.Action{Kind: press.Cut, Unit: o.N}, press.Action{Kind: press.Close, Unit: o.N})
		}
		return append(program, press.Action{Kind: press.Crawl}, press.Action{Kind: press.Wash, Unit: o.N}, press.Action{Kind: press.Stop}), api.OK
	})
}

// tear tears the web in a tower.
func (n *night) tear(o Order) (int, api.Errno) {
	state, lost, e := press.Break(n.Press, n.state, o.N)
	if e != api.OK {
		return 0, e
	}
	n.state, n.copies = state, n.copies.lose(lost)
	return lost, api.OK
}

// goal returns the goal of all editions.
func (n *night) goal() press.Goal {
	g := press.Goal{Drive: press.Running}
	for _, cols := range n.plan.Cols {
		g.Pressed = append(g.Pressed, cols > 0)
	}
	return g
}

// isPrinting reports whether the press fulfils the goal: whether it needs no action to do so.
func (n *night) isPrinting() bool {
	return press.Verify(n.Press, n.state, n.goal(), nil) == api.OK
}

func (n *night) isThreaded(tower int) bool {
	return 0 <= tower && tower < len(n.state.Units) && n.state.Units[tower].Threaded
}

// lead puts the press to a goal, and returns how many actions that took.
func (n *night) lead(g press.Goal) (int, api.Errno) {
	return n.drive(func() ([]press.Action, api.Errno) { return press.Find(n.Press, n.state, g) })
}

// drive carries out the program that is looked up, and returns how many actions that took.
func (n *night) drive(lookUp func() ([]press.Action, api.Errno)) (took int, e api.Errno) {
	program, e := lookUp()
	if e != api.OK {
		return 0, e
	}
	n.state, took, e = press.Program(n.Press, n.state, program)
	return took, e
}

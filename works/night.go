package works

import (
	"foldhouse/api"
	"foldhouse/books"
	"foldhouse/edition"
	"foldhouse/impose"
	"foldhouse/mail"
	"foldhouse/plate"
	"foldhouse/press"
)

// night is a setup at work.
type night struct {
	Setup
	order []int
	plan  impose.Plan
	// place is where the night is in the order.
	place                int
	hung, mailed, closed bool
	items                []plate.Item
	state                press.State
	copies               tally
	bundles              []mail.Bundle
	entries              []books.Signed
}

// begin returns the night of a setup at its beginning, or the error of the setup. It shares memory with the setup.
func begin(s Setup) (night, api.Errno) {
	if e := s.check(); e != api.OK {
		return night{}, e
	}
	order, _, e := edition.Best(s.Title)
	if e != api.OK {
		return night{}, api.ErrTime
	}
	plan, cost, e := impose.Least(s.Job)
	if e != api.OK {
		return night{}, e
	}
	if cost.Webs != len(s.Paper.Webs) {
		return night{}, api.ErrReel
	}
	state, e := press.Begin(s.Press)
	return night{Setup: s, order: order, plan: plan, state: state}, e
}

// acts returns what the kinds of orders do. With an error they may leave the night spoiled.
func acts() map[Kind]func(*night, Order) (int, api.Errno) {
	return map[Kind]func(*night, Order) (int, api.Errno){
		Hang:  (*night).hang,
		Start: (*night).start,
		Print: (*night).print,
		Break: (*night).tear,
		Stop:  (*night).stop,
		Next:  (*night).next,
		Mail:  (*night).mail,
		Shut:  (*night).shut,
		Wash:  (*night).wash,
	}
}

// isDone reports whether all editions are done.
func (n *night) isDone() bool { return n.place == len(n.order) }

// editions returns the editions in their order.
func (n *night) editions() []edition.Edition {
	editions, _ := edition.Editions(n.Title)
	var ordered []edition.Edition
	for _, i := range n.order {
		ordered = append(ordered, editions[i])
	}
	return ordered
}

// progress returns how many good copies the edition has, and wants; nothing if all editions are done.
func (n *night) progress() (good, want int) {
	if n.isDone() {
		return 0, 0
	}
	editions := n.editions()
	good = n.copies.rank(n.copies.printed())
	for _, done := range editions[:n.place] {
		good -= done.Copies
	}
	return good, editions[n.place].Copies
}

func (n *night) status() Status {
	s := Status{At: n.place, Edition: none, Hung: n.hung, Mailed: n.mailed, Shut: n.closed, Printed: n.copies.printed(), Drive: n.state.Drive}
	if !n.isDone() {
		s.Edition = n.order[n.place]
	}
	s.Good, s.Want = n.progress()
	return s
}

// which returns the number of the edition and the zone of a copy. The last copy of an edition that is done is good, so that a copy that is not good has the edition of the next good one.
func (n *night) which(copy int) (int, int) {
	zone, number, _ := edition.Which(n.Title, n.order, n.copies.rank(copy))
	if n.copies.cause(copy) != 0 {
		zone = none
	}
	return number, zone
}

// next goes on to the next edition.
func (n *night) next(Order) (int, api.Errno) {
	if !n.hung {
		return 0, api.ErrOrder
	}
	if n.state.Drive != press.Stopped {
		return 0, api.ErrGuard
	}
	if good, want := n.progress(); good != want {
		return 0, api.ErrState
	}
	n.place, n.hung = n.place+1, false
	return n.place, api.OK
}

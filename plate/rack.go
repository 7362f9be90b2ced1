package plate

import (
	"slices"

	"foldhouse/api"
	"foldhouse/fold"
)

// Rack has the plates of a run.
type Rack struct {
	// made is the rack itself, so that one that New did not return can be told.
	made  *Rack
	webs  []fold.Web
	items []Item
}

// New returns an empty rack.
func New(r fold.Run) (*Rack, api.Errno) {
	if e := fold.Check(r); e != api.OK {
		return nil, e
	}
	k := &Rack{webs: clone(r.Webs)}
	k.made = k
	return k, api.OK
}

func (k *Rack) isMade() bool { return k != nil && k.made == k }

// Act carries out an order, and returns the number of its plate.
func (k *Rack) Act(o Order) (int, api.Errno) {
	if !k.isMade() {
		return 0, api.ErrNil
	}
	act, is := acts()[o.Kind]
	if !is {
		return 0, api.ErrCommand
	}
	return act(k, o)
}

// Change gives a rack another run.
func (k *Rack) Change(r fold.Run) api.Errno {
	if !k.isMade() {
		return api.ErrNil
	}
	if e := fold.Check(r); e != api.OK {
		return e
	}
	if !sameShape(k.webs, r.Webs) {
		return api.ErrArg
	}
	k.webs = clone(r.Webs)
	return api.OK
}

// Items returns all plates.
func (k *Rack) Items() ([]Item, api.Errno) {
	if !k.isMade() {
		return nil, api.ErrNil
	}
	return slices.Clone(k.items), api.OK
}

// Missing returns the spots with a page that are not served.
func (k *Rack) Missing() ([]fold.Spot, api.Errno) {
	if !k.isMade() {
		return nil, api.ErrNil
	}
	hung := k.hung()
	return where(k.webs, func(s fold.Spot, page int) bool { return page != 0 && hung[s] != page }), api.OK
}

// Wrong returns the spots with a wrong plate.
func (k *Rack) Wrong() ([]fold.Spot, api.Errno) {
	if !k.isMade() {
		return nil, api.ErrNil
	}
	hung := k.hung()
	return where(k.webs, func(s fold.Spot, page int) bool { return hung[s] != 0 && hung[s] != page }), api.OK
}

// Ready reports whether all spots are served.
func (k *Rack) Ready() (bool, api.Errno) {
	if !k.isMade() {
		return false, api.ErrNil
	}
	hung := k.hung()
	for s, page := range spots(k.webs) {
		if hung[s] != page {
			return false, api.OK
		}
	}
	return true, api.OK
}

// Counts returns how many plates are Burnt, Bent, Hung and Scrapped.
func (k *Rack) Counts() ([]int, api.Errno) {
	if !k.isMade() {
		return nil, api.ErrNil
	}
	counts := make([]int, Scrapped)
	for _, item := range k.items {
		counts[item.State-Burnt]++
	}
	return counts, api.OK
}

// acts returns what the kinds of orders do.
func acts() map[Kind]func(*Rack, Order) (int, api.Errno) {
	return map[Kind]func(*Rack, Order) (int, api.Errno){
		Burn:  (*Rack).burn,
		Bend:  (*Rack).bend,
		Hang:  (*Rack).hang,
		Take:  (*Rack).take,
		Scrap: (*Rack).scrap,
	}
}

func (k *Rack) burn(o Order) (int, api.Errno) {
	if o.Page < 1 || o.Page > api.MaxPages {
		return 0, api.ErrRange
	}
	if len(k.items) == MaxPlates {
		return 0, api.ErrMany
	}
	k.items = append(k.items, Item{Page: o.Page, State: Burnt})
	return len(k.items) - 1, api.OK
}

func (k *Rack) bend(o Order) (int, api.Errno) { return k.lead(o.Plate, Bent, Burnt) }

func (k *Rack) take(o Order) (int, api.Errno) { return k.lead(o.Plate, Bent, Hung) }

func (k *Rack) scrap(o Order) (int, api.Errno) { return k.lead(o.Plate, Scrapped, Burnt, Bent) }

func (k *Rack) hang(o Order) (int, api.Errno) {
	if e := k.checkState(o.Plate, Bent); e != api.OK {
		return 0, e
	}
	page, is := pages(k.webs)[o.Spot]
	if !is {
		return 0, api.ErrRange
	}
	hangs := func(item Item) bool { return item.State == Hung && item.Spot == o.Spot }
	if slices.ContainsFunc(k.items, hangs) {
		return 0, api.ErrTwice
	}
	// A spot without a page takes no plate, as each plate has one.
	if page != k.items[o.Plate].Page {
		return 0, api.ErrPage
	}
	k.items[o.Plate] = Item{Page: page, State: Hung, Spot: o.Spot}
	return o.Plate, api.OK
}

// lead brings a plate into a state in which it is off the press, from one of some others.
func (k *Rack) lead(plate int, to State, from ...State) (int, api.Errno) {
	if e := k.checkState(plate, from...); e != api.OK {
		return 0, e
	}
	k.items[plate] = Item{Page: k.items[plate].Page, State: to}
	return plate, api.OK
}

// checkState returns the error of a plate that is to be in one of some states.
func (k *Rack) checkState(plate int, states ...State) api.Errno {
	if plate < 0 || plate >= len(k.items) {
		return api.ErrNone
	}
	if !slices.Contains(states, k.items[plate].State) {
		return api.ErrState
	}
	return api.OK
}

// hung returns the pages of the plates that hang, each of which is from 1 on.
func (k *Rack) hung() map[fold.Spot]int {
	hung := map[fold.Spot]int{}
	for _, item := range k.items {
		if item.State == Hung {
			hung[item.Spot] = item.Page
		}
	}
	return hung
}

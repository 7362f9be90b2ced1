package register

import (
	"slices"

	"foldhouse/api"
)

// Desk holds the colours of a pattern.
type Desk struct {
	layout
	// made is the desk itself, so that one that New did not return can be told.
	made     *Desk
	controls []*control
	limit    int
	copies   []Copy
}

// New returns a desk.
func New(pattern []int, l []Loop, window, limit int) (*Desk, api.Errno) {
	p := layout{marks: slices.Clone(pattern), window: window}
	if !p.hasMarks() {
		return nil, api.ErrMany
	}
	for _, loop := range l {
		if code := Check(loop); code != api.OK {
			return nil, code
		}
	}
	if len(l) != len(pattern)-1 {
		return nil, api.ErrArg
	}
	if !p.isAllowed() || !within(limit, 0, MaxError) {
		return nil, api.ErrRange
	}
	d := &Desk{layout: p, limit: limit}
	d.made = d
	for _, loop := range l {
		d.controls = append(d.controls, newControl(loop))
	}
	return d, api.OK
}

func (d *Desk) isMade() bool { return d != nil && d.made == d }

// Read takes the reading of a copy.
func (d *Desk) Read(seen []int) (Copy, api.Errno) {
	if !d.isMade() {
		return Copy{}, api.ErrNil
	}
	if len(d.copies) == MaxPlay {
		return Copy{}, api.ErrMany
	}
	fit, code := d.match(seen)
	if code != api.OK {
		return Copy{}, code
	}
	c := Copy{Errors: slices.Repeat([]int{Lost}, len(d.controls))}
	if fit.Found[0] == Lost || 2*fit.Count < len(d.marks) {
		code = api.ErrNone
	} else {
		c.Shift, c.Errors = fit.Shift, d.errors(fit.Found)
		// A mark that was not found has the error Lost, which is above any limit.
		c.Good = areWithin(d.limit, c.Errors...)
	}
	c.Moves = d.decide(c.Errors)
	d.copies = append(d.copies, c)
	return c.clone(), code
}

// decide lets each loop decide by its error.
func (d *Desk) decide(errors []int) []int {
	var moves []int
	for i, control := range d.controls {
		move := 0
		if errors[i] != Lost {
			move = control.decide(errors[i])
		}
		control.delay(move)
		moves = append(moves, move)
	}
	return moves
}

// Copies returns all copies.
func (d *Desk) Copies() ([]Copy, api.Errno) {
	if !d.isMade() {
		return nil, api.ErrNil
	}
	var copies []Copy
	for _, c := range d.copies {
		copies = append(copies, c.clone())
	}
	return copies, api.OK
}

// Waste returns how many copies are not good.
func (d *Desk) Waste() (int, api.Errno) {
	if !d.isMade() {
		return 0, api.ErrNil
	}
	waste := 0
	for _, c := range d.copies {
		if !c.Good {
			waste++
		}
	}
	return waste, api.OK
}

// clone returns a copy that shares no memory with the argument.
func (c Copy) clone() Copy {
	c.Errors, c.Moves = slices.Clone(c.Errors), slices.Clone(c.Moves)
	return c
}

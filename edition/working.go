package edition

import (
	"iter"
	"slices"

	"foldhouse/api"
)

// working is a valid title at work, with its editions.
type working struct {
	Title
	editions []Edition
	changes  [MaxEditions][MaxEditions]int
	whole    int
}

// newWorking returns a title at work, or the error of the title.
func newWorking(t Title) (*working, api.Errno) {
	if e := check(t); e != api.OK {
		return nil, e
	}
	w := &working{Title: t, editions: editionsOf(t)}
	switch n := len(w.editions); {
	case n == 0:
		return nil, api.ErrNone
	case n > MaxEditions:
		return nil, api.ErrLarge
	}
	w.whole = w.plates(func(int) bool { return true })
	for a, one := range w.editions {
		for b, other := range w.editions {
			w.changes[a][b] = w.plates(func(page int) bool { return one.Variants[page] != other.Variants[page] })
		}
	}
	return w, api.OK
}

// newOrdered returns a title at work, or the error of the title or of an order of its editions.
func newOrdered(t Title, order []int) (*working, api.Errno) {
	w, e := newWorking(t)
	if e != api.OK {
		return nil, e
	}
	if !w.isOrder(order) {
		return nil, api.ErrArg
	}
	return w, api.OK
}

// editionsOf returns the editions of a title that check has found right. They share no memory with it.
func editionsOf(t Title) []Edition {
	var editions []Edition
	found := map[[MaxPages]int]int{}
	for i, zone := range t.Zones {
		if zone.Copies == 0 {
			continue
		}
		var key [MaxPages]int
		copy(key[:], zone.Variants)
		n, is := found[key]
		if !is {
			n = len(editions)
			found[key] = n
			editions = append(editions, Edition{Ready: readyOf(t, zone), Due: zone.Due, Variants: slices.Clone(zone.Variants)})
		}
		editions[n].Zones = append(editions[n].Zones, i)
		editions[n].Copies += zone.Copies
		editions[n].Due = min(editions[n].Due, zone.Due)
	}
	return editions
}

// readyOf returns the second at which all pages of a zone can be hung.
func readyOf(t Title, zone Zone) int {
	second := 0
	for _, ready := range t.Ready {
		if zone.Variants[ready.Page] == ready.Variant {
			second = max(second, ready.At)
		}
	}
	return second
}

// plates returns how many plates the counted pages have. A panorama is counted once, if one of its pages is.
func (w *working) plates(counts func(page int) bool) int {
	var counted [MaxPages]bool
	for page := range w.Colours {
		counted[page] = counts(page)
	}
	for _, page := range w.Pairs {
		counted[page], counted[page+1] = counted[page] || counted[page+1], false
	}
	plates := 0
	for page, colours := range w.Colours {
		if counted[page] {
			plates += colours
		}
	}
	return plates
}

// isOrder reports whether a list names each edition once.
func (w *working) isOrder(order []int) bool {
	if len(order) != len(w.editions) {
		return false
	}
	var named [MaxEditions]bool
	for _, n := range order {
		if !within(n, 0, len(order)-1) || named[n] {
			return false
		}
		named[n] = true
	}
	return true
}

// with returns the title with another second for a page and a variant.
func (w *working) with(other Ready) *working {
	changed := *w
	changed.Ready = slices.DeleteFunc(slices.Clone(w.Ready), func(r Ready) bool {
		return r.Page == other.Page && r.Variant == other.Variant
	})
	changed.Ready = append(changed.Ready, other)
	changed.editions = editionsOf(changed.Title)
	return &changed
}

// first returns the slot of an edition that is the first one.
func (w *working) first(edition int) Slot {
	return w.slot(edition, w.whole, max(w.Start, w.editions[edition].Ready))
}

// after returns the slot of an edition for which the press stops at a second, and so many plates are changed.
func (w *working) after(end, edition, plates int) Slot {
	return w.slot(edition, plates, max(end, w.editions[edition].Ready)+w.Stop+w.Hang*plates)
}

func (w *working) slot(edition, plates, begin int) Slot {
	seconds := (60*w.editions[edition].Copies + w.Rate - 1) / w.Rate
	return Slot{Edition: edition, Plates: plates, Begin: begin, End: begin + seconds}
}

// next returns the slot of an edition that follows on these slots.
func (w *working) next(slots []Slot, edition int) Slot {
	if len(slots) == 0 {
		return w.first(edition)
	}
	last := slots[len(slots)-1]
	return w.after(last.End, edition, w.changes[last.Edition][edition])
}

// slots returns the slots of an order.
func (w *working) slots(order []int) []Slot {
	var slots []Slot
	for _, edition := range order {
		slots = append(slots, w.next(slots, edition))
	}
	return slots
}

// isLate reports whether a slot ends too late.
func (w *working) isLate(s Slot) bool { return s.End > w.editions[s.Edition].Due }

// parts yields the copies of all zones, as they are printed, each with its edition.
func (w *working) parts(order []int) iter.Seq2[int, Part] {
	return func(yield func(edition int, part Part) bool) {
		begin := 0
		for _, edition := range order {
			for _, zone := range w.editions[edition].Zones {
				end := begin + w.Zones[zone].Copies
				if !yield(edition, Part{Zone: zone, Span: api.Span{Lo: begin, Hi: end - 1}}) {
					return
				}
				begin = end
			}
		}
	}
}

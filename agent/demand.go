package agent

import "cmp"

func (d Day) sold() int { return d.Supply - d.Returned }

// isKnown reports whether the demand of a day is known: it is what was sold then, and at least this otherwise.
func (d Day) isKnown() bool { return d.Returned > 0 }

// costs are those of a copy too many, and of one too few.
type costs struct{ over, under int }

// loss returns the loss of a supply on a day.
func (c costs) loss(d Day, q int) int {
	switch more := q - d.sold(); {
	case more < 0:
		return c.under * -more
	case d.isKnown():
		return c.over * more
	}
	return 0
}

// total returns the losses of a supply on all days.
func (c costs) total(h []Day, q int) int {
	sum := 0
	for _, d := range h {
		sum += c.loss(d, q)
	}
	return sum
}

// supply is a supply with its total.
type supply struct{ copies, total int }

func (s supply) compare(other supply) int {
	return cmp.Or(cmp.Compare(s.total, other.total), cmp.Compare(s.copies, other.copies))
}

// best returns the least supply with the least total. This is 0 or what was sold on some day, as the total is a straight line between these.
func (c costs) best(h []Day) supply {
	all := []supply{{0, c.total(h, 0)}}
	for _, d := range h {
		all = append(all, supply{d.sold(), c.total(h, d.sold())})
	}
	best, _ := least(all, supply.compare)
	return best
}

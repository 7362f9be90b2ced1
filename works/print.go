package works

import (
	"slices"

	"foldhouse/api"
	"foldhouse/count"
	"foldhouse/press"
	"foldhouse/reel"
)

// print prints copies, as far as the edition needs some.
func (n *night) print(o Order) (int, api.Errno) {
	if e := n.checkPrint(o.N); e != api.OK {
		return 0, e
	}
	book := n.ahead(o.N)
	copies := n.enough(book)
	spans, _ := book.Spans()
	all := slices.Clone(n.copies)
	for _, s := range spans {
		all.add(s.Cause, min(s.To+1, copies)-s.From)
	}
	n.copies = all
	n.state, _, _ = press.Print(n.Press, n.state, copies)
	return copies, api.OK
}

// checkPrint returns the error of an order to print so many copies at most.
func (n *night) checkPrint(copies int) api.Errno {
	if copies < 0 || copies > MaxPrint {
		return api.ErrRange
	}
	if !n.hung {
		return api.ErrOrder
	}
	if !n.isPrinting() {
		return api.ErrGuard
	}
	if reach, _ := reel.Reach(n.Paper); n.copies.printed()+copies > reach {
		return api.ErrReel
	}
	return api.OK
}

// ahead returns a book of the next copies, which the paper reaches. In it they are numbered from 0 on.
func (n *night) ahead(copies int) *count.Book {
	book, _ := count.New(copies)
	_, wastes, _ := press.Print(n.Press, n.state, copies)
	for _, waste := range wastes {
		book.Mark(count.Mark(waste))
	}
	first := n.copies.printed()
	reach, _ := reel.Reach(n.Paper)
	thrown, _ := reel.Thrown(n.Paper, reach)
	for _, s := range thrown {
		m := count.Mark{Cause: Spliced, From: max(0, s.Lo-first), To: min(copies-1, s.Hi-first)}
		if m.From <= m.To {
			book.Mark(m)
		}
	}
	return book
}

// enough returns how many of the next copies are printed: just as many until the edition has its good copies, or all.
func (n *night) enough(book *count.Book) int {
	good, want := n.progress()
	if good == want {
		return 0
	}
	last, e := book.Nth(want - good - 1)
	if e != api.OK {
		copies, _ := book.Total()
		return copies
	}
	return last + 1
}

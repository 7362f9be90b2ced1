package plate

import (
	"iter"
	"maps"
	"slices"

	"foldhouse/fold"
)

// spots yields the spots of webs in increasing order, each with its page.
func spots(webs []fold.Web) iter.Seq2[fold.Spot, int] {
	return func(yield func(s fold.Spot, page int) bool) {
		for n, web := range webs {
			for i, plate := range web.Plates {
				// The plates of a web stand in the order of their spots.
				s := fold.Spot{Web: n, Side: i / web.Cols / web.Rows, Row: i / web.Cols % web.Rows, Col: i % web.Cols}
				if !yield(s, plate.Page) {
					return
				}
			}
		}
	}
}

// pages returns the page of each spot of webs.
func pages(webs []fold.Web) map[fold.Spot]int {
	return maps.Collect(spots(webs))
}

// where returns the spots of webs for which a condition holds, in increasing order.
func where(webs []fold.Web, holds func(s fold.Spot, page int) bool) []fold.Spot {
	var l []fold.Spot
	for s, page := range spots(webs) {
		if holds(s, page) {
			l = append(l, s)
		}
	}
	return l
}

// sameShape reports whether two lists of webs have the same Cols and Rows.
func sameShape(a, b []fold.Web) bool {
	return slices.EqualFunc(a, b, func(x, y fold.Web) bool { return x.Cols == y.Cols && x.Rows == y.Rows })
}

// clone returns webs that share no memory with those of the argument.
func clone(webs []fold.Web) []fold.Web {
	var out []fold.Web
	for _, web := range webs {
		web.Plates = slices.Clone(web.Plates)
		out = append(out, web)
	}
	return out
}

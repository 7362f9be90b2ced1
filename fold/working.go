package fold

import (
	"iter"
	"slices"
)

// Sides of a web.
const (
	upper = 0
	lower = 1
)

// working is a run at work. The methods in this file rely on a run that check has found right.
type working struct {
	Run
}

// half is a column of a web as one half of a ribbon, with the sides of the web in the order in which they are read.
type half struct {
	web, col int
	sides    [2]int
}

// rightHalf returns the right half of a ribbon, whose lower side is read first. Turning the ribbon has exchanged both its sides and its columns.
func rightHalf(b Ribbon) half {
	if b.Turned {
		return half{b.Web, b.Col, [2]int{upper, lower}}
	}
	return half{b.Web, b.Col + b.Width - 1, [2]int{lower, upper}}
}

// leftHalf returns the left half of a ribbon, whose upper side is read first.
func leftHalf(b Ribbon) half {
	if b.Turned {
		return half{b.Web, b.Col + b.Width - 1, [2]int{lower, upper}}
	}
	return half{b.Web, b.Col, [2]int{upper, lower}}
}

// halves yields the halves of the ribbons of a stack in the order in which they are read.
func (w working) halves(stack []int) iter.Seq[half] {
	return func(yield func(half) bool) {
		for _, ribbon := range stack {
			b := w.Ribbons[ribbon]
			if !b.Left && !yield(rightHalf(b)) {
				return
			}
		}
		for i := len(stack) - 1; i >= 0; i-- {
			b := w.Ribbons[stack[i]]
			if (b.Width == 2 || b.Left) && !yield(leftHalf(b)) {
				return
			}
		}
	}
}

// spots returns the spots that print the pages of a stack in a row, in the order in which they are read.
func (w working) spots(stack []int, row int) []Spot {
	var out []Spot
	for h := range w.halves(stack) {
		for _, side := range h.sides {
			out = append(out, Spot{Web: h.web, Side: side, Row: row, Col: h.col})
		}
	}
	return out
}

// layout returns the copies of one turn of the cylinders: the spots of each section of each copy.
func (w working) layout() [][][]Spot {
	if w.Collected {
		return [][][]Spot{w.collectedCopy()}
	}
	var copies [][][]Spot
	for row := range w.Webs[0].Rows {
		copies = append(copies, w.straightCopy(row))
	}
	return copies
}

func (w working) collectedCopy() [][]Spot {
	var sections [][]Spot
	for _, stack := range w.Stacks {
		for row := range w.Webs[0].Rows {
			sections = append(sections, w.spots(stack, row))
		}
	}
	return sections
}

func (w working) straightCopy(row int) [][]Spot {
	var sections [][]Spot
	for _, stack := range w.Stacks {
		sections = append(sections, w.spots(stack, row))
	}
	return sections
}

// places returns the place that each spot prints.
func (w working) places() map[Spot]Place {
	places := map[Spot]Place{}
	for c, sections := range w.layout() {
		for s, spots := range sections {
			for i, spot := range spots {
				places[spot] = Place{Copy: c, Section: s, Index: i}
			}
		}
	}
	return places
}

// sizes returns how many pages each section has. All copies are alike in this.
func (w working) sizes() []int {
	var sizes []int
	for _, spots := range w.layout()[0] {
		sizes = append(sizes, len(spots))
	}
	return sizes
}

// hasSizes reports whether a product has as many sections and pages as a copy.
func (w working) hasSizes(product [][]int) bool {
	return slices.EqualFunc(w.sizes(), product, func(n int, section []int) bool { return n == len(section) })
}

// plate returns the plate on a spot.
func (w working) plate(s Spot) Plate {
	web := w.Webs[s.Web]
	return web.Plates[plateIndex(web, s)]
}

func plateIndex(web Web, s Spot) int {
	return (s.Side*web.Rows+s.Row)*web.Cols + s.Col
}

// leaves returns the leaf pages of the sections of a copy.
func (w working) leaves(sections [][]Spot) [][]Plate {
	var leaves [][]Plate
	for _, spots := range sections {
		var plates []Plate
		for _, spot := range spots {
			plates = append(plates, w.plate(spot))
		}
		leaves = append(leaves, plates)
	}
	return leaves
}

// beside reports whether two spots are beside each other on one ribbon.
func (w working) beside(a, b Spot) bool {
	if a.Web != b.Web || a.Side != b.Side || a.Row != b.Row {
		return false
	}
	if a.Col-b.Col != 1 && b.Col-a.Col != 1 {
		return false
	}
	return w.ribbonOf(a) == w.ribbonOf(b)
}

// ribbonOf returns the number of the ribbon that a spot prints on.
func (w working) ribbonOf(s Spot) int {
	return slices.IndexFunc(w.Ribbons, func(b Ribbon) bool {
		return b.Web == s.Web && b.Col <= s.Col && s.Col < b.Col+b.Width
	})
}

// clone returns a copy of a run that shares no memory with it.
func clone(r Run) Run {
	out := Run{Ribbons: slices.Clone(r.Ribbons), Collected: r.Collected}
	for _, web := range r.Webs {
		web.Plates = slices.Clone(web.Plates)
		out.Webs = append(out.Webs, web)
	}
	for _, stack := range r.Stacks {
		out.Stacks = append(out.Stacks, slices.Clone(stack))
	}
	return out
}

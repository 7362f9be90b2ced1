// Package fold is the geometry of a press run. It is layer 1: see shared/doc/01-fold.md.
package fold

import "foldhouse/api"

// Limits of layer 1.
const (
	MaxWebs    = 8
	MaxRibbons = 32
	MaxStacks  = 4
)

const (
	maxCols  = 4
	maxRows  = 2
	maxSheet = 1000000000
)

// Plate prints a page.
type Plate struct {
	Page   int
	Upside bool
}

// Web is a web with its plates.
type Web struct {
	Cols, Rows int
	Plates     []Plate
}

// Ribbon is a part of a web.
type Ribbon struct {
	Web, Col, Width int
	Turned, Left    bool
}

// Run is a press run.
type Run struct {
	Webs      []Web
	Ribbons   []Ribbon
	Stacks    [][]int
	Collected bool
}

// Spot is where a plate prints.
type Spot struct{ Web, Side, Row, Col int }

// Place is where a page is read.
type Place struct{ Copy, Section, Index int }

// Check returns the error of a run.
func Check(r Run) api.Errno {
	return working{r}.check()
}

// Copies returns the copies of a run.
func Copies(r Run) ([][][]Plate, api.Errno) {
	w := working{r}
	if e := w.check(); e != api.OK {
		return nil, e
	}
	var copies [][][]Plate
	for _, spots := range w.layout() {
		copies = append(copies, w.leaves(spots))
	}
	return copies, api.OK
}

// Where returns the spot that prints a place.
func Where(r Run, p Place) (Spot, api.Errno) {
	w := working{r}
	if e := w.check(); e != api.OK {
		return Spot{}, e
	}
	copies := w.layout()
	if p.Copy < 0 || p.Copy >= len(copies) {
		return Spot{}, api.ErrRange
	}
	sections := copies[p.Copy]
	if p.Section < 0 || p.Section >= len(sections) {
		return Spot{}, api.ErrRange
	}
	spots := sections[p.Section]
	if p.Index < 0 || p.Index >= len(spots) {
		return Spot{}, api.ErrRange
	}
	return spots[p.Index], api.OK
}

// Follow returns the place that a spot prints.
func Follow(r Run, s Spot) (Place, api.Errno) {
	w := working{r}
	if e := w.check(); e != api.OK {
		return Place{}, e
	}
	p, ok := w.places()[s]
	if !ok {
		return Place{}, api.ErrRange
	}
	return p, api.OK
}

// Sizes returns how many pages each section has.
func Sizes(r Run) ([]int, api.Errno) {
	w := working{r}
	if e := w.check(); e != api.OK {
		return nil, e
	}
	return w.sizes(), api.OK
}

// Fill returns a run whose copies are a product.
func Fill(r Run, product [][]int) (Run, api.Errno) {
	w := working{r}
	if e := w.check(); e != api.OK {
		return Run{}, e
	}
	if !w.hasSizes(product) {
		return Run{}, api.ErrPage
	}
	if !hasPages(product) {
		return Run{}, api.ErrRange
	}
	out := clone(r)
	for spot, p := range w.places() {
		web := out.Webs[spot.Web]
		web.Plates[plateIndex(web, spot)] = Plate{Page: product[p.Section][p.Index]}
	}
	return out, api.OK
}

// Right reports whether the copies of a run are a product.
func Right(r Run, product [][]int) (bool, api.Errno) {
	w := working{r}
	if e := w.check(); e != api.OK {
		return false, e
	}
	if !hasPages(product) {
		return false, api.ErrRange
	}
	if !w.hasSizes(product) {
		return false, api.OK
	}
	for spot, p := range w.places() {
		plate := w.plate(spot)
		if plate.Page != product[p.Section][p.Index] || plate.Page != 0 && plate.Upside {
			return false, api.OK
		}
	}
	return true, api.OK
}

// Ganged returns the places that are printed beside the next ones.
func Ganged(r Run) ([]Place, api.Errno) {
	w := working{r}
	if e := w.check(); e != api.OK {
		return nil, e
	}
	var places []Place
	for c, sections := range w.layout() {
		for s, spots := range sections {
			for i := 1; i < len(spots); i++ {
				if w.beside(spots[i-1], spots[i]) {
					places = append(places, Place{Copy: c, Section: s, Index: i - 1})
				}
			}
		}
	}
	return places, api.OK
}

// Cut returns which copy and part a sheet belongs to.
func Cut(r Run, n int) (int, int, api.Errno) {
	if e := Check(r); e != api.OK {
		return 0, 0, e
	}
	if n < 0 || n > maxSheet {
		return 0, 0, api.ErrRange
	}
	if r.Collected {
		return n / 2, n % 2, api.OK
	}
	return n, 0, api.OK
}

// Turn returns a run with a ribbon turned over.
func Turn(r Run, ribbon int) (Run, api.Errno) {
	if e := Check(r); e != api.OK {
		return Run{}, e
	}
	if ribbon < 0 || ribbon >= len(r.Ribbons) {
		return Run{}, api.ErrRange
	}
	out := clone(r)
	out.Ribbons[ribbon].Turned = !out.Ribbons[ribbon].Turned
	return out, api.OK
}

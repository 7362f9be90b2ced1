package plate_test

import (
	"math/rand"
	"slices"
	"testing"

	"foldhouse/api"
	"foldhouse/fold"
	"foldhouse/plate"
)

// makeRun returns a right run of webs with these columns, each column with a ribbon of its own, and without pages.
func makeRun(rows int, cols ...int) fold.Run {
	r := fold.Run{Stacks: [][]int{nil}}
	for web, n := range cols {
		r.Webs = append(r.Webs, fold.Web{Cols: n, Rows: rows, Plates: make([]fold.Plate, 2*n*rows)})
		for col := range n {
			r.Stacks[0] = append(r.Stacks[0], len(r.Ribbons))
			r.Ribbons = append(r.Ribbons, fold.Ribbon{Web: web, Col: col, Width: 1})
		}
	}
	return r
}

// small returns a run of one web, with two columns and one row, that prints these pages: upper side, and then lower side.
func small(pages ...int) fold.Run {
	r := fold.Run{Webs: []fold.Web{{Cols: 2, Rows: 1}}, Ribbons: []fold.Ribbon{{Width: 2}}, Stacks: [][]int{{0}}}
	for _, page := range pages {
		r.Webs[0].Plates = append(r.Webs[0].Plates, fold.Plate{Page: page})
	}
	return r
}

// example returns the run of the chapter's example 4.
func example(t *testing.T) fold.Run {
	t.Helper()
	r, e := fold.Fill(small(0, 0, 0, 0), [][]int{{1, 2, 3, 4}})
	if e != api.OK {
		t.Fatal(e)
	}
	return r
}

// largest returns a run with as many spots as there can be.
func largest() fold.Run {
	r := makeRun(2, 4, 4, 4, 4, 4, 4, 4, 4)
	for i, s := range spotsOf(r) {
		setPage(r, s, i+1)
	}
	return r
}

// anyShape returns a right run of some webs, without pages.
func anyShape(rnd *rand.Rand) fold.Run {
	cols := make([]int, 1+rnd.Intn(3))
	for i := range cols {
		cols[i] = 1 + rnd.Intn(4)
	}
	return makeRun(1+rnd.Intn(2), cols...)
}

// withPages returns a run of the same shape with few different pages, some of which are 0, and some Upside.
func withPages(r fold.Run, rnd *rand.Rand) fold.Run {
	r = copyOf(r)
	for _, w := range r.Webs {
		for i := range w.Plates {
			w.Plates[i] = fold.Plate{Page: rnd.Intn(4), Upside: rnd.Intn(3) == 0}
		}
	}
	return r
}

// changedPages returns a run of the same shape in which some pages are others.
func changedPages(r fold.Run, rnd *rand.Rand) fold.Run {
	r = copyOf(r)
	for _, w := range r.Webs {
		for i := range w.Plates {
			if rnd.Intn(4) == 0 {
				w.Plates[i].Page = rnd.Intn(4)
			}
			if rnd.Intn(4) == 0 {
				w.Plates[i].Upside = !w.Plates[i].Upside
			}
		}
	}
	return r
}

// copyOf returns a run that shares no memory with r.
func copyOf(r fold.Run) fold.Run {
	r.Webs, r.Ribbons, r.Stacks = slices.Clone(r.Webs), slices.Clone(r.Ribbons), slices.Clone(r.Stacks)
	for i := range r.Webs {
		r.Webs[i].Plates = slices.Clone(r.Webs[i].Plates)
	}
	for i := range r.Stacks {
		r.Stacks[i] = slices.Clone(r.Stacks[i])
	}
	return r
}

// spotsOf returns the spots of a run in increasing order.
func spotsOf(r fold.Run) []fold.Spot {
	var l []fold.Spot
	for web, w := range r.Webs {
		for side := range 2 {
			for row := range w.Rows {
				for col := range w.Cols {
					l = append(l, fold.Spot{Web: web, Side: side, Row: row, Col: col})
				}
			}
		}
	}
	return l
}

func indexOf(r fold.Run, s fold.Spot) int {
	return (s.Side*r.Webs[s.Web].Rows+s.Row)*r.Webs[s.Web].Cols + s.Col
}

func pageAt(r fold.Run, s fold.Spot) int { return r.Webs[s.Web].Plates[indexOf(r, s)].Page }

func setPage(r fold.Run, s fold.Spot, page int) { r.Webs[s.Web].Plates[indexOf(r, s)].Page = page }

// differing returns the spots in which two runs of the same shape differ.
func differing(a, b fold.Run) []fold.Spot {
	var l []fold.Spot
	for _, s := range spotsOf(a) {
		if pageAt(a, s) != pageAt(b, s) {
			l = append(l, s)
		}
	}
	return l
}

// newRack returns the rack of a run.
func newRack(t *testing.T, r fold.Run) *plate.Rack {
	t.Helper()
	k, e := plate.New(r)
	if e != api.OK || k == nil {
		t.Fatal(k, e)
	}
	return k
}

// act carries out an order that is to be carried out.
func act(t *testing.T, k *plate.Rack, o plate.Order) int {
	t.Helper()
	n, e := k.Act(o)
	if e != api.OK {
		t.Fatalf("%v: %+v", e, o)
	}
	return n
}

// burn makes a plate and bends it.
func burn(t *testing.T, k *plate.Rack, page int) int {
	t.Helper()
	n := act(t, k, plate.Order{Kind: plate.Burn, Page: page})
	return act(t, k, plate.Order{Kind: plate.Bend, Plate: n})
}

// fill hangs a new plate of its page on each spot with a page.
func fill(t *testing.T, k *plate.Rack, r fold.Run) {
	t.Helper()
	for _, s := range spotsOf(r) {
		if page := pageAt(r, s); page != 0 {
			act(t, k, plate.Order{Kind: plate.Hang, Plate: burn(t, k, page), Spot: s})
		}
	}
}

// expectAct checks what an order does.
func expectAct(t *testing.T, k *plate.Rack, o plate.Order, n int, want api.Errno) {
	t.Helper()
	if got, e := k.Act(o); got != n || e != want {
		t.Errorf("%v %v, not %v %v: %+v", got, e, n, want, o)
	}
}

// expectSpots checks a list of spots.
func expectSpots(t *testing.T, of func() ([]fold.Spot, api.Errno), want ...fold.Spot) {
	t.Helper()
	if l, e := of(); e != api.OK || !slices.Equal(l, want) {
		t.Errorf("%v %v, not %v", l, e, want)
	}
}

// expectItems checks the plates of a rack, and how many there are in each state.
func expectItems(t *testing.T, k *plate.Rack, want ...plate.Item) {
	t.Helper()
	if l, e := k.Items(); e != api.OK || !slices.Equal(l, want) {
		t.Errorf("%v %v, not %v", l, e, want)
	}
	counts := make([]int, 4)
	for _, item := range want {
		counts[item.State-1]++
	}
	if l, e := k.Counts(); e != api.OK || !slices.Equal(l, counts) {
		t.Errorf("%v %v, not %v", l, e, counts)
	}
}

func expectReady(t *testing.T, k *plate.Rack, want bool) {
	t.Helper()
	if is, e := k.Ready(); e != api.OK || is != want {
		t.Error(is, e)
	}
}

package fold_test

import (
	"math"
	"math/rand"
	"testing"

	"foldhouse/api"
	"foldhouse/fold"
)

// spoil changes all that a run refers to.
func spoil(r fold.Run) {
	for i := range r.Webs {
		for j := range r.Webs[i].Plates {
			r.Webs[i].Plates[j] = fold.Plate{Page: 99, Upside: true}
		}
		r.Webs[i] = fold.Web{}
	}
	for i := range r.Ribbons {
		r.Ribbons[i] = fold.Ribbon{}
	}
	for i := range r.Stacks {
		for j := range r.Stacks[i] {
			r.Stacks[i][j] = -1
		}
		r.Stacks[i] = nil
	}
}

// R4: no argument is changed, and no result shares memory with one.
func TestMemory(t *testing.T) {
	anyRuns(func(r fold.Run, rnd *rand.Rand) {
		before := deepCopy(r)
		sizes, _ := fold.Sizes(r)
		product := anyProduct(rnd, sizes)
		x, _ := fold.Fill(r, product)
		y, _ := fold.Turn(r, 0)
		copies, _ := fold.Copies(r)
		fold.Right(r, product)
		fold.Ganged(r)
		spoil(x)
		spoil(y)
		for _, sections := range copies {
			for _, leafPages := range sections {
				clear(leafPages)
			}
			clear(sections)
		}
		if !same(r, before) {
			t.Errorf("%+v, not %+v", r, before)
		}
	})
}

// R4: a product is not kept.
func TestProductIsNotKept(t *testing.T) {
	product := [][]int{{1, 2, 3, 4}}
	x, _ := fold.Fill(small(), product)
	product[0][0], product[0][1] = 9, 9
	if is, e := fold.Right(x, [][]int{{1, 2, 3, 4}}); !is || e != api.OK {
		t.Error(is, e)
	}
}

// anyNumber returns a number that is mostly near the limits.
func anyNumber(rnd *rand.Rand) int {
	l := []int{0, 0, 0, 1, 1, 2, 2, 3, 4, 5, -1, 128, 129, math.MaxInt, math.MinInt}
	return l[rnd.Intn(len(l))]
}

// twisted returns a run in which a part of a right run is changed, or not.
func twisted(rnd *rand.Rand) fold.Run {
	r := anyRun(rnd)
	for range rnd.Intn(3) {
		w := &r.Webs[rnd.Intn(len(r.Webs))]
		b := &r.Ribbons[rnd.Intn(len(r.Ribbons))]
		s := rnd.Intn(len(r.Stacks))
		switch rnd.Intn(12) {
		case 0:
			w.Cols = anyNumber(rnd)
		case 1:
			w.Rows = anyNumber(rnd)
		case 2:
			w.Plates = w.Plates[:rnd.Intn(len(w.Plates)+1)]
		case 3:
			b.Web = anyNumber(rnd)
		case 4:
			b.Col = anyNumber(rnd)
		case 5:
			b.Width = anyNumber(rnd)
		case 6:
			b.Left = !b.Left
		case 7:
			r.Stacks[s] = append(r.Stacks[s], anyNumber(rnd))
		case 8:
			r.Stacks[s] = nil
		case 9:
			r.Collected = !r.Collected
		case 10:
			r.Webs = append(r.Webs, *w)
		case 11:
			r.Ribbons = append(r.Ribbons, *b)
		}
	}
	return r
}

// P8: no function panics, and all of them agree about the error of a run.
func TestAnyArguments(t *testing.T) {
	rnd := rand.New(rand.NewSource(2))
	for range 5000 {
		r := twisted(rnd)
		want := fold.Check(r)
		_, copies := fold.Copies(r)
		sizes, e := fold.Sizes(r)
		_, ganged := fold.Ganged(r)
		if copies != want || e != want || ganged != want {
			t.Errorf("%v %v %v, not %v: %+v", copies, e, ganged, want, r)
		}
		product := anyProduct(rnd, sizes)
		if len(product) > 0 && rnd.Intn(2) == 0 {
			product[rnd.Intn(len(product))] = []int{anyNumber(rnd)}
		}
		n := anyNumber(rnd)
		_, where := fold.Where(r, fold.Place{Copy: anyNumber(rnd), Section: anyNumber(rnd), Index: n})
		_, follow := fold.Follow(r, fold.Spot{Web: anyNumber(rnd), Side: anyNumber(rnd), Row: anyNumber(rnd), Col: n})
		_, fill := fold.Fill(r, product)
		_, right := fold.Right(r, product)
		_, _, cut := fold.Cut(r, n)
		_, turn := fold.Turn(r, n)
		for _, e := range []api.Errno{where, follow, fill, right, cut, turn} {
			if want != api.OK && e != want {
				t.Errorf("%v, not %v: %+v", e, want, r)
			}
		}
	}
}

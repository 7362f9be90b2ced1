package fold_test

import (
	"math"
	"math/rand"
	"slices"
	"testing"

	"foldhouse/api"
	"foldhouse/fold"
)

// P1.3: the examples of the chapter.
func TestFillExamples(t *testing.T) {
	two := []fold.Ribbon{{Width: 2}}
	four := []fold.Ribbon{{Width: 2}, {Col: 2, Width: 2}}
	for i, c := range []struct {
		r       fold.Run
		product [][]int
		want    [][]int
	}{
		{makeRun(1, []int{2}, two, []int{0}), [][]int{numbers(1, 4)}, [][]int{{3, 2, 4, 1}}},
		{makeRun(1, []int{2}, []fold.Ribbon{{Width: 2, Turned: true}}, []int{0}), [][]int{numbers(1, 4)}, [][]int{{1, 4, 2, 3}}},
		{makeRun(1, []int{4}, four, []int{0, 1}), [][]int{numbers(1, 8)}, [][]int{{7, 2, 5, 4, 8, 1, 6, 3}}},
		{makeRun(1, []int{2, 1}, []fold.Ribbon{{Width: 2}, {Web: 1, Width: 1}}, []int{0, 1}), [][]int{numbers(1, 6)}, [][]int{{5, 2, 6, 1}, {4, 3}}},
		{makeRun(1, []int{1}, []fold.Ribbon{{Width: 1, Turned: true}}, []int{0}), [][]int{{1, 2}}, [][]int{{1, 2}}},
		{makeRun(1, []int{1}, []fold.Ribbon{{Width: 1, Left: true}}, []int{0}), [][]int{{1, 2}}, [][]int{{1, 2}}},
		{makeRun(1, []int{1}, []fold.Ribbon{{Width: 1, Left: true, Turned: true}}, []int{0}), [][]int{{1, 2}}, [][]int{{2, 1}}},
		{makeRun(1, []int{4}, four, []int{1}, []int{0}), [][]int{numbers(1, 4), numbers(5, 8)}, [][]int{{7, 6, 3, 2, 8, 5, 4, 1}}},
		{makeRun(2, []int{2}, two, []int{0}), [][]int{{7, 0, 128, 7}}, [][]int{{128, 0, 128, 0, 7, 7, 7, 7}}},
	} {
		x, e := fold.Fill(c.r, c.product)
		if e != api.OK {
			t.Error(i, e)
			continue
		}
		for w, want := range c.want {
			if !slices.Equal(pages(x.Webs[w]), want) {
				t.Error(i, w, pages(x.Webs[w]))
			}
		}
	}
}

// P1.3: nothing but the plates is another, and none of them is Upside.
func TestFillKeepsTheRest(t *testing.T) {
	anyRuns(func(r fold.Run, rnd *rand.Rand) {
		sizes, _ := fold.Sizes(r)
		product := anyProduct(rnd, sizes)
		x, e := fold.Fill(r, product)
		if e != api.OK {
			t.Fatal(e)
		}
		for p, spot := range expectedSpots(r) {
			if *plateOf(x, spot) != (fold.Plate{Page: product[p.Section][p.Index]}) {
				t.Errorf("%v: %v: %+v", p, *plateOf(x, spot), r)
			}
			*plateOf(x, spot) = *plateOf(r, spot)
		}
		if !same(x, r) {
			t.Errorf("%+v, not %+v", x, r)
		}
	})
}

// P1.3
func TestProductErrors(t *testing.T) {
	pair := makeRun(1, []int{2, 1}, []fold.Ribbon{{Width: 2}, {Web: 1, Width: 1}}, []int{0}, []int{1})
	rows := makeRun(2, []int{1}, []fold.Ribbon{{Width: 1}}, []int{0})
	collected := deepCopy(rows)
	collected.Collected = true
	for i, c := range []struct {
		r           fold.Run
		product     [][]int
		fill, right api.Errno
	}{
		{pair, [][]int{{0, 1, 128, 2}, {3, 4}}, api.OK, api.OK},
		{pair, nil, api.ErrPage, api.OK},
		{pair, [][]int{}, api.ErrPage, api.OK},
		{pair, [][]int{{0, 0, 0, 0}}, api.ErrPage, api.OK},
		{pair, [][]int{{0, 0, 0, 0}, nil}, api.ErrPage, api.OK},
		{pair, [][]int{{0, 0, 0, 0}, {0}}, api.ErrPage, api.OK},
		{pair, [][]int{{0, 0, 0, 0}, {0, 0, 0}}, api.ErrPage, api.OK},
		{pair, [][]int{{0, 0}, {0, 0, 0, 0}}, api.ErrPage, api.OK},
		{pair, [][]int{{0, 0, 0, 0}, {0, 0}, {}}, api.ErrPage, api.OK},
		{pair, [][]int{{0, 0, 0, 0}, {0, 129}}, api.ErrRange, api.ErrRange},
		{pair, [][]int{{-1, 0, 0, 0}, {0, 0}}, api.ErrRange, api.ErrRange},
		{pair, [][]int{{math.MaxInt, 0, 0, 0}, {0, math.MinInt}}, api.ErrRange, api.ErrRange},
		{pair, [][]int{{129}}, api.ErrPage, api.ErrRange},
		{pair, [][]int{{129, 0, 0, 0}, {0}}, api.ErrPage, api.ErrRange},
		{pair, [][]int{{0, 0, 0, 0}, {0, 0}, {-1}}, api.ErrPage, api.ErrRange},
		{rows, [][]int{{0, 0}}, api.OK, api.OK},
		{rows, [][]int{{0, 0}, {0, 0}}, api.ErrPage, api.OK},
		{collected, [][]int{{0, 0}}, api.ErrPage, api.OK},
		{collected, [][]int{{0, 0}, {0, 0}}, api.OK, api.OK},
	} {
		x, e := fold.Fill(c.r, c.product)
		if e != c.fill || e != api.OK && !same(x, fold.Run{}) {
			t.Error(i, x, e)
		}
		is, e := fold.Right(c.r, c.product)
		if e != c.right || is && c.fill != api.OK {
			t.Error(i, is, e)
		}
	}
}

// P1.3: a page that is 0 may be Upside, and each copy of a straight run must be right.
func TestRight(t *testing.T) {
	product := [][]int{{1, 0, 3, 4}}
	filled, e := fold.Fill(makeRun(2, []int{2}, []fold.Ribbon{{Width: 2}}, []int{0}), product)
	if e != api.OK {
		t.Fatal(e)
	}
	for i, c := range []struct {
		change func(l []fold.Plate)
		want   bool
	}{
		{func(l []fold.Plate) {}, true},
		{func(l []fold.Plate) { l[1].Upside = true }, true},
		{func(l []fold.Plate) { l[3].Upside = true }, true},
		{func(l []fold.Plate) { l[0].Upside = true }, false},
		{func(l []fold.Plate) { l[6].Upside = true }, false},
		{func(l []fold.Plate) { l[0].Page = 0 }, false},
		{func(l []fold.Plate) { l[1].Page = 2 }, false},
		{func(l []fold.Plate) { l[7].Page = 2 }, false},
		{func(l []fold.Plate) { l[4].Page, l[0].Page = l[0].Page, l[4].Page }, false},
	} {
		r := deepCopy(filled)
		c.change(r.Webs[0].Plates)
		if is, e := fold.Right(r, product); e != api.OK || is != c.want {
			t.Error(i, is, e)
		}
	}
}

// P1.5: whoever changes a page, or turns a plate that prints one, makes a run wrong.
func TestRightOfAnyRun(t *testing.T) {
	anyRuns(func(r fold.Run, rnd *rand.Rand) {
		sizes, _ := fold.Sizes(r)
		product := anyProduct(rnd, sizes)
		x, e := fold.Fill(r, product)
		if e != api.OK {
			t.Fatal(e)
		}
		if is, e := fold.Right(x, product); !is || e != api.OK {
			t.Errorf("%v %v: %+v", is, e, x)
		}
		for _, s := range allSpots(x) {
			plate := plateOf(x, s)
			before := *plate
			plate.Page = (plate.Page + 1 + rnd.Intn(128)) % 129
			if is, e := fold.Right(x, product); is || e != api.OK {
				t.Errorf("another page: %v %v %v: %+v", s, is, e, x)
			}
			*plate = before
			plate.Upside = true
			if is, e := fold.Right(x, product); is != (plate.Page == 0) || e != api.OK {
				t.Errorf("upside down: %v %v %v: %+v", s, is, e, x)
			}
			*plate = before
		}
	})
}

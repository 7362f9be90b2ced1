package fold_test

import (
	"math"
	"math/rand"
	"slices"
	"testing"

	"foldhouse/api"
	"foldhouse/fold"
)

// errorCase is a run with an error, or without one.
type errorCase struct {
	name string
	r    fold.Run
	want api.Errno
}

// changed returns a case: the run of example 1 with a change.
func changed(name string, want api.Errno, change func(r *fold.Run)) errorCase {
	r := small()
	change(&r)
	return errorCase{name, r, want}
}

func numberCases() []errorCase {
	tooManyWebs := largest()
	tooManyWebs.Webs = append(tooManyWebs.Webs, tooManyWebs.Webs[0])
	tooManyRibbons := largest()
	tooManyRibbons.Ribbons = append(tooManyRibbons.Ribbons, fold.Ribbon{})
	tooManyStacks := makeRun(1, []int{4, 1}, []fold.Ribbon{{Width: 1}, {Col: 1, Width: 1}, {Col: 2, Width: 1}, {Col: 3, Width: 1}, {Web: 1, Width: 1}}, []int{0}, []int{1}, []int{2}, []int{3}, []int{4})
	return []errorCase{
		{"zero run", fold.Run{}, api.ErrMany},
		{"largest run", largest(), api.OK},
		{"nine webs", tooManyWebs, api.ErrMany},
		{"33 ribbons", tooManyRibbons, api.ErrMany},
		{"five stacks", tooManyStacks, api.ErrMany},
		changed("as it is", api.OK, func(r *fold.Run) {}),
		changed("nil webs", api.ErrMany, func(r *fold.Run) { r.Webs = nil }),
		changed("empty webs", api.ErrMany, func(r *fold.Run) { r.Webs = []fold.Web{} }),
		changed("nil ribbons", api.ErrMany, func(r *fold.Run) { r.Ribbons = nil }),
		changed("empty ribbons", api.ErrMany, func(r *fold.Run) { r.Ribbons = []fold.Ribbon{} }),
		changed("nil stacks", api.ErrMany, func(r *fold.Run) { r.Stacks = nil }),
		changed("empty stacks", api.ErrMany, func(r *fold.Run) { r.Stacks = [][]int{} }),
	}
}

func webCases() []errorCase {
	var l []errorCase
	for _, cols := range []int{math.MinInt, -1, 0, 5, math.MaxInt} {
		l = append(l, changed("columns", api.ErrRange, func(r *fold.Run) { r.Webs[0].Cols = cols }))
	}
	for _, rows := range []int{math.MinInt, -1, 0, 3, math.MaxInt} {
		l = append(l, changed("rows", api.ErrRange, func(r *fold.Run) { r.Webs[0].Rows = rows }))
	}
	l = append(l, changed("three rows with plates", api.ErrRange, func(r *fold.Run) {
		r.Webs[0].Rows = 3
		r.Webs[0].Plates = make([]fold.Plate, 12)
	}))
	l = append(l,
		changed("no columns, no plates", api.ErrRange, func(r *fold.Run) { r.Webs[0].Cols, r.Webs[0].Plates = 0, nil }),
		changed("no rows, no plates", api.ErrRange, func(r *fold.Run) { r.Webs[0].Rows, r.Webs[0].Plates = 0, nil }),
		errorCase{"five columns with plates", makeRun(1, []int{5}, []fold.Ribbon{{Width: 2}, {Col: 2, Width: 2}, {Col: 4, Width: 1}}, []int{0, 1, 2}), api.ErrRange})
	for _, n := range []int{0, 3, 5, 8} {
		l = append(l, changed("plates", api.ErrRange, func(r *fold.Run) { r.Webs[0].Plates = make([]fold.Plate, n) }))
	}
	for page, want := range map[int]api.Errno{math.MinInt: api.ErrRange, -1: api.ErrRange, 0: api.OK, 1: api.OK, 128: api.OK, 129: api.ErrRange, math.MaxInt: api.ErrRange} {
		for i := range 4 {
			l = append(l, changed("page", want, func(r *fold.Run) { r.Webs[0].Plates[i].Page = page }))
		}
	}
	for cols := 1; cols <= 4; cols++ {
		ribbons := make([]fold.Ribbon, cols)
		for i := range ribbons {
			ribbons[i] = fold.Ribbon{Col: i, Width: 1}
		}
		l = append(l, errorCase{"allowed columns", makeRun(2, []int{cols}, ribbons, numbers(0, cols-1)), api.OK})
	}
	twoWebs := func(secondRows int) fold.Run {
		r := makeRun(1, []int{1, 1}, []fold.Ribbon{{Width: 1}, {Web: 1, Width: 1}}, []int{0, 1})
		r.Webs[1] = fold.Web{Cols: 1, Rows: secondRows, Plates: make([]fold.Plate, 2*secondRows)}
		return r
	}
	return append(l, errorCase{"equal rows", twoWebs(1), api.OK}, errorCase{"other rows", twoWebs(2), api.ErrRange})
}

func ribbonCases() []errorCase {
	var l []errorCase
	for _, n := range []int{math.MinInt, -1, 1, math.MaxInt} {
		l = append(l,
			changed("web of a ribbon", api.ErrFold, func(r *fold.Run) { r.Ribbons[0].Web = n }),
			changed("column of a ribbon", api.ErrFold, func(r *fold.Run) { r.Ribbons[0].Col = n }),
			changed("width of a ribbon", api.ErrFold, func(r *fold.Run) { r.Ribbons[0].Width = n }))
	}
	return append(l,
		changed("a ribbon that is turned", api.OK, func(r *fold.Run) { r.Ribbons[0].Turned = true }),
		changed("width 0", api.ErrFold, func(r *fold.Run) { r.Ribbons[0].Width = 0 }),
		changed("a wide ribbon that is left", api.ErrFold, func(r *fold.Run) { r.Ribbons[0].Left = true }),
		errorCase{"a narrow ribbon that is left", makeRun(1, []int{1}, []fold.Ribbon{{Width: 1, Left: true}}, []int{0}), api.OK},
		errorCase{"a ribbon without columns", makeRun(1, []int{2}, []fold.Ribbon{{Width: 2}, {Width: 0}}, []int{0, 1}), api.ErrFold},
		errorCase{"a ribbon of negative width", makeRun(1, []int{2}, []fold.Ribbon{{Width: 2}, {Width: -1}}, []int{0, 1}), api.ErrFold},
		errorCase{"width 3", makeRun(1, []int{3}, []fold.Ribbon{{Width: 3}}, []int{0}), api.ErrFold},
		errorCase{"a column in two ribbons", makeRun(1, []int{3}, []fold.Ribbon{{Width: 2}, {Col: 1, Width: 2}}, []int{0, 1}), api.ErrFold},
		errorCase{"a ribbon twice", makeRun(1, []int{2}, []fold.Ribbon{{Width: 2}, {Width: 2}}, []int{0, 1}), api.ErrFold},
		errorCase{"a column in no ribbon", makeRun(1, []int{3}, []fold.Ribbon{{Width: 2}}, []int{0}), api.ErrFold},
		errorCase{"the first column in no ribbon", makeRun(1, []int{3}, []fold.Ribbon{{Col: 1, Width: 2}}, []int{0}), api.ErrFold},
		errorCase{"a web in no ribbon", makeRun(1, []int{2, 1}, []fold.Ribbon{{Width: 2}}, []int{0}), api.ErrFold},
		errorCase{"a ribbon over the edge", makeRun(1, []int{3}, []fold.Ribbon{{Width: 2}, {Col: 2, Width: 2}}, []int{0, 1}), api.ErrFold},
		errorCase{"ribbons in any order", makeRun(1, []int{3, 1}, []fold.Ribbon{{Web: 1, Width: 1}, {Col: 1, Width: 2}, {Width: 1}}, []int{2}, []int{1, 0}), api.OK})
}

func stackCases() []errorCase {
	var l []errorCase
	for _, n := range []int{math.MinInt, -1, 1, math.MaxInt} {
		l = append(l, changed("no such ribbon", api.ErrFold, func(r *fold.Run) { r.Stacks[0][0] = n }))
	}
	pair := []fold.Ribbon{{Width: 2}, {Col: 2, Width: 2}}
	rowsWithCollected := func(rows int) fold.Run {
		r := makeRun(rows, []int{2}, []fold.Ribbon{{Width: 2}}, []int{0})
		r.Collected = true
		return r
	}
	return append(l,
		changed("a ribbon twice in a stack", api.ErrFold, func(r *fold.Run) { r.Stacks[0] = []int{0, 0} }),
		changed("a ribbon in two stacks", api.ErrFold, func(r *fold.Run) { r.Stacks = [][]int{{0}, {0}} }),
		changed("a nil stack", api.ErrFold, func(r *fold.Run) { r.Stacks = [][]int{{0}, nil} }),
		changed("an empty stack", api.ErrFold, func(r *fold.Run) { r.Stacks = [][]int{{}, {0}} }),
		errorCase{"a ribbon in no stack", makeRun(1, []int{4}, pair, []int{1}), api.ErrFold},
		errorCase{"two stacks", makeRun(1, []int{4}, pair, []int{1}, []int{0}), api.OK},
		errorCase{"collected with one row", rowsWithCollected(1), api.ErrFold},
		errorCase{"collected with two rows", rowsWithCollected(2), api.OK})
}

// orderCases have several errors each.
func orderCases() []errorCase {
	return []errorCase{
		changed("many before range", api.ErrMany, func(r *fold.Run) { r.Webs[0].Cols, r.Stacks = 9, make([][]int, 5) }),
		changed("many before fold", api.ErrMany, func(r *fold.Run) { r.Ribbons[0].Web, r.Stacks = 9, nil }),
		changed("range before ribbons", api.ErrRange, func(r *fold.Run) { r.Ribbons[0].Web, r.Webs[0].Plates[3].Page = 9, 129 }),
		changed("range before stacks", api.ErrRange, func(r *fold.Run) { r.Stacks[0], r.Webs[0].Plates = nil, nil }),
		changed("range before collected", api.ErrRange, func(r *fold.Run) { r.Collected, r.Webs[0].Plates[0].Page = true, -1 }),
	}
}

func errorCases() []errorCase {
	return slices.Concat(numberCases(), webCases(), ribbonCases(), stackCases(), orderCases())
}

// P1.1
func TestCheck(t *testing.T) {
	for _, c := range errorCases() {
		if e := fold.Check(c.r); e != c.want {
			t.Errorf("%s: %v, not %v: %+v", c.name, e, c.want, c.r)
		}
	}
	anyRuns(func(r fold.Run, _ *rand.Rand) {
		if e := fold.Check(r); e != api.OK {
			t.Errorf("%v: %+v", e, r)
		}
	})
}

// P1.1, R1, R2: arguments that are wrong themselves do not hide the error of a run.
func TestErrorOfRunComesFirst(t *testing.T) {
	for _, c := range errorCases() {
		if c.want == api.OK {
			continue
		}
		if l, e := fold.Copies(c.r); e != c.want || len(l) != 0 {
			t.Error("Copies", c.name, l, e)
		}
		if s, e := fold.Where(c.r, fold.Place{Copy: -1}); e != c.want || s != (fold.Spot{}) {
			t.Error("Where", c.name, s, e)
		}
		if p, e := fold.Follow(c.r, fold.Spot{Side: 2}); e != c.want || p != (fold.Place{}) {
			t.Error("Follow", c.name, p, e)
		}
		if l, e := fold.Sizes(c.r); e != c.want || len(l) != 0 {
			t.Error("Sizes", c.name, l, e)
		}
		if x, e := fold.Fill(c.r, [][]int{{-1}}); e != c.want || !same(x, fold.Run{}) {
			t.Error("Fill", c.name, x, e)
		}
		if is, e := fold.Right(c.r, [][]int{{-1}}); e != c.want || is {
			t.Error("Right", c.name, is, e)
		}
		if l, e := fold.Ganged(c.r); e != c.want || len(l) != 0 {
			t.Error("Ganged", c.name, l, e)
		}
		if n, part, e := fold.Cut(c.r, -1); e != c.want || n != 0 || part != 0 {
			t.Error("Cut", c.name, n, part, e)
		}
		if x, e := fold.Turn(c.r, -1); e != c.want || !same(x, fold.Run{}) {
			t.Error("Turn", c.name, x, e)
		}
	}
}

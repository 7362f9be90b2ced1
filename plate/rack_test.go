package plate_test

import (
	"math"
	"slices"
	"testing"

	"foldhouse/api"
	"foldhouse/fold"
	"foldhouse/plate"
)

// P4.3: the chapter's example 4.
func TestRackExample(t *testing.T) {
	k := newRack(t, example(t))
	expectItems(t, k)
	n := burn(t, k, 2)
	for _, s := range spotsOf(example(t)) {
		if s != (fold.Spot{Col: 1}) {
			expectAct(t, k, plate.Order{Kind: plate.Hang, Plate: n, Spot: s}, 0, api.ErrPage)
		}
	}
	expectItems(t, k, plate.Item{Page: 2, State: plate.Bent})
	expectAct(t, k, plate.Order{Kind: plate.Hang, Plate: n, Spot: fold.Spot{Col: 1}}, n, api.OK)
	expectItems(t, k, plate.Item{Page: 2, State: plate.Hung, Spot: fold.Spot{Col: 1}})
	expectSpots(t, k.Missing, fold.Spot{}, fold.Spot{Side: 1}, fold.Spot{Side: 1, Col: 1})
	expectSpots(t, k.Wrong)
	expectReady(t, k, false)
}

// P4.3: a run with an error has no rack.
func TestNewErrors(t *testing.T) {
	page, ribbon := small(1, 2, 3, 129), small(1, 2, 3, 4)
	ribbon.Ribbons[0].Col = 1
	for _, r := range []fold.Run{{}, makeRun(1, 1, 1, 1, 1, 1, 1, 1, 1, 1), small(1, 2, 3), page, small(1, 2, 3, -1), ribbon, makeRun(3, 1)} {
		want := fold.Check(r)
		if k, e := plate.New(r); k != nil || e != want || e == api.OK {
			t.Error(k, e, want)
		}
		k := newRack(t, small(1, 2, 3, 4))
		if e := k.Change(r); e != want {
			t.Error(e, want)
		}
		if l, e := plate.Differ(r, small(1, 2, 3, 4)); l != nil || e != want {
			t.Error(l, e, want)
		}
		if l, e := plate.Differ(small(1, 2, 3, 4), r); l != nil || e != want {
			t.Error(l, e, want)
		}
	}
}

// P4.3: plates are numbered in the order in which they are burnt.
func TestBurn(t *testing.T) {
	k := newRack(t, example(t))
	expectAct(t, k, plate.Order{Kind: plate.Burn, Page: 1}, 0, api.OK)
	for _, page := range []int{0, -1, 129, math.MinInt, math.MaxInt} {
		expectAct(t, k, plate.Order{Kind: plate.Burn, Page: page}, 0, api.ErrRange)
	}
	// A page that the run does not print, and one that there is already.
	expectAct(t, k, plate.Order{Kind: plate.Burn, Page: 128}, 1, api.OK)
	expectAct(t, k, plate.Order{Kind: plate.Burn, Page: 1, Plate: -7, Spot: fold.Spot{Web: 9}}, 2, api.OK)
	expectItems(t, k, plate.Item{Page: 1, State: plate.Burnt}, plate.Item{Page: 128, State: plate.Burnt}, plate.Item{Page: 1, State: plate.Burnt})
}

// P4.3: how many plates there can be, those that are Scrapped among them.
func TestMaxPlates(t *testing.T) {
	k := newRack(t, example(t))
	var want []plate.Item
	for n := range 500 {
		expectAct(t, k, plate.Order{Kind: plate.Burn, Page: 1 + n%128}, n, api.OK)
		expectAct(t, k, plate.Order{Kind: plate.Scrap, Plate: n}, n, api.OK)
		want = append(want, plate.Item{Page: 1 + n%128, State: plate.Scrapped})
	}
	expectAct(t, k, plate.Order{Kind: plate.Burn, Page: 1}, 0, api.ErrMany)
	expectAct(t, k, plate.Order{Kind: plate.Burn, Page: 129}, 0, api.ErrRange)
	expectAct(t, k, plate.Order{Kind: plate.Bend, Plate: 500}, 0, api.ErrNone)
	expectAct(t, k, plate.Order{Kind: plate.Bend, Plate: 499}, 0, api.ErrState)
	expectItems(t, k, want...)
}

// P4.3: which order leads from which state.
func TestStates(t *testing.T) {
	spot := fold.Spot{Col: 1}
	ways := map[plate.State][]plate.Kind{
		plate.Burnt:    nil,
		plate.Bent:     {plate.Bend},
		plate.Hung:     {plate.Bend, plate.Hang},
		plate.Scrapped: {plate.Scrap},
	}
	next := map[plate.State]map[plate.Kind]plate.State{
		plate.Burnt:    {plate.Bend: plate.Bent, plate.Scrap: plate.Scrapped},
		plate.Bent:     {plate.Hang: plate.Hung, plate.Scrap: plate.Scrapped},
		plate.Hung:     {plate.Take: plate.Bent},
		plate.Scrapped: {},
	}
	item := func(state plate.State) plate.Item {
		if state == plate.Hung {
			return plate.Item{Page: 2, State: state, Spot: spot}
		}
		return plate.Item{Page: 2, State: state}
	}
	for state, way := range ways {
		for _, kind := range []plate.Kind{plate.Bend, plate.Hang, plate.Take, plate.Scrap} {
			k := newRack(t, example(t))
			other := plate.Item{Page: 7, State: plate.Burnt}
			act(t, k, plate.Order{Kind: plate.Burn, Page: 7})
			act(t, k, plate.Order{Kind: plate.Burn, Page: 2})
			for _, kind := range way {
				act(t, k, plate.Order{Kind: kind, Plate: 1, Spot: spot})
			}
			expectItems(t, k, other, item(state))
			to, is := next[state][kind]
			if is {
				expectAct(t, k, plate.Order{Kind: kind, Page: 7, Plate: 1, Spot: spot}, 1, api.OK)
			} else {
				to = state
				expectAct(t, k, plate.Order{Kind: kind, Page: 7, Plate: 1, Spot: spot}, 0, api.ErrState)
			}
			expectItems(t, k, other, item(to))
		}
	}
}

// P4.3: kinds and plates that there are not.
func TestNoSuchOrder(t *testing.T) {
	k := newRack(t, example(t))
	n := burn(t, k, 2)
	for _, kind := range []plate.Kind{0, -1, 6, 7, math.MinInt, math.MaxInt} {
		expectAct(t, k, plate.Order{Kind: kind, Page: 1, Plate: n, Spot: fold.Spot{Col: 1}}, 0, api.ErrCommand)
		expectAct(t, k, plate.Order{Kind: kind, Plate: 9}, 0, api.ErrCommand)
	}
	for _, kind := range []plate.Kind{plate.Bend, plate.Hang, plate.Take, plate.Scrap} {
		for _, n := range []int{-1, 1, 2, 500, math.MinInt, math.MaxInt} {
			expectAct(t, k, plate.Order{Kind: kind, Page: 2, Plate: n, Spot: fold.Spot{Col: 1}}, 0, api.ErrNone)
			expectAct(t, k, plate.Order{Kind: kind, Page: 2, Plate: n, Spot: fold.Spot{Web: 9}}, 0, api.ErrNone)
		}
	}
	expectItems(t, k, plate.Item{Page: 2, State: plate.Bent})
}

// P4.3: spots that there are not.
func TestNoSuchSpot(t *testing.T) {
	r := makeRun(2, 2, 3)
	for _, w := range r.Webs {
		for i := range w.Plates {
			w.Plates[i].Page = 5
		}
	}
	k := newRack(t, r)
	n := burn(t, k, 5)
	hang := func(s fold.Spot, number int, want api.Errno) {
		t.Helper()
		expectAct(t, k, plate.Order{Kind: plate.Hang, Plate: n, Spot: s}, number, want)
	}
	for _, n := range []int{-1, 2, 4, math.MinInt, math.MaxInt} {
		for _, s := range []fold.Spot{{Web: n}, {Side: n}, {Row: n}, {Col: n}, {Web: 1, Side: n}, {Web: 1, Row: n}} {
			hang(s, 0, api.ErrRange)
		}
	}
	hang(fold.Spot{Web: 1, Col: 3}, 0, api.ErrRange)
	hang(fold.Spot{Web: 1, Side: 2, Row: -1}, 0, api.ErrRange)
	hang(fold.Spot{Row: 1, Col: -1}, 0, api.ErrRange)
	for i, s := range spotsOf(r) {
		expectItems(t, k, plate.Item{Page: 5, State: plate.Bent})
		hang(s, n, api.OK)
		expectItems(t, k, plate.Item{Page: 5, State: plate.Hung, Spot: s})
		expectAct(t, k, plate.Order{Kind: plate.Take, Plate: n}, n, api.OK)
		if i == 19 && s != (fold.Spot{Web: 1, Side: 1, Row: 1, Col: 2}) {
			t.Error(s)
		}
	}
	// The state goes before the spot.
	expectAct(t, k, plate.Order{Kind: plate.Scrap, Plate: n}, n, api.OK)
	hang(fold.Spot{Web: 9}, 0, api.ErrState)
}

// P4.3: where a plate hangs no other one can hang, whichever page it has.
func TestHangTwice(t *testing.T) {
	k := newRack(t, small(2, 2, 0, 1))
	first, second, other := burn(t, k, 2), burn(t, k, 2), burn(t, k, 3)
	hang := func(n int, s fold.Spot, number int, want api.Errno) {
		t.Helper()
		expectAct(t, k, plate.Order{Kind: plate.Hang, Plate: n, Spot: s}, number, want)
	}
	hang(first, fold.Spot{}, first, api.OK)
	hang(second, fold.Spot{}, 0, api.ErrTwice)
	hang(other, fold.Spot{}, 0, api.ErrTwice)
	hang(other, fold.Spot{Col: 1}, 0, api.ErrPage)
	hang(other, fold.Spot{Side: 1}, 0, api.ErrPage)
	hang(second, fold.Spot{Side: 1}, 0, api.ErrPage)
	hang(second, fold.Spot{Col: 1}, second, api.OK)
	hang(second, fold.Spot{}, 0, api.ErrState)
	// A spot from which a plate was taken is free again.
	expectAct(t, k, plate.Order{Kind: plate.Take, Plate: first}, first, api.OK)
	hang(first, fold.Spot{Col: 1}, 0, api.ErrTwice)
	hang(first, fold.Spot{}, first, api.OK)
	// A plate that is wrong after a change is in the way of that which is right.
	if e := k.Change(small(3, 3, 2, 2)); e != api.OK {
		t.Fatal(e)
	}
	hang(other, fold.Spot{}, 0, api.ErrTwice)
	expectAct(t, k, plate.Order{Kind: plate.Take, Plate: first}, first, api.OK)
	hang(first, fold.Spot{}, 0, api.ErrPage)
	hang(other, fold.Spot{}, other, api.OK)
	hang(first, fold.Spot{Side: 1, Col: 1}, first, api.OK)
	expectItems(t, k, plate.Item{Page: 2, State: plate.Hung, Spot: fold.Spot{Side: 1, Col: 1}}, plate.Item{Page: 2, State: plate.Hung, Spot: fold.Spot{Col: 1}}, plate.Item{Page: 3, State: plate.Hung})
	expectSpots(t, k.Missing, fold.Spot{Col: 1}, fold.Spot{Side: 1})
	expectSpots(t, k.Wrong, fold.Spot{Col: 1})
}

// P4.3: a plate that is Upside in the run hangs as any other one.
func TestUpside(t *testing.T) {
	r := small(1, 2, 0, 4)
	for i := range r.Webs[0].Plates {
		r.Webs[0].Plates[i].Upside = true
	}
	k := newRack(t, r)
	fill(t, k, r)
	expectReady(t, k, true)
	if e := k.Change(small(1, 2, 0, 4)); e != api.OK {
		t.Error(e)
	}
	expectReady(t, k, true)
	if l, e := plate.Differ(r, small(1, 2, 0, 4)); e != api.OK || len(l) != 0 {
		t.Error(l, e)
	}
}

// P4.4: which spots are Missing, Wrong, both, or neither.
func TestChange(t *testing.T) {
	k := newRack(t, small(1, 2, 0, 0))
	fill(t, k, small(1, 2, 0, 0))
	expectReady(t, k, true)
	expectSpots(t, k.Missing)
	expectSpots(t, k.Wrong)
	change := func(r fold.Run, want api.Errno) {
		t.Helper()
		if e := k.Change(r); e != want {
			t.Error(e, want)
		}
	}
	hung := []plate.Item{{Page: 1, State: plate.Hung}, {Page: 2, State: plate.Hung, Spot: fold.Spot{Col: 1}}}
	// Another page: wrong, and missing.
	change(small(1, 3, 0, 0), api.OK)
	expectSpots(t, k.Missing, fold.Spot{Col: 1})
	expectSpots(t, k.Wrong, fold.Spot{Col: 1})
	expectReady(t, k, false)
	// No page any more: wrong alone.
	change(small(1, 0, 0, 0), api.OK)
	expectSpots(t, k.Missing)
	expectSpots(t, k.Wrong, fold.Spot{Col: 1})
	expectReady(t, k, false)
	// A page where none was: missing alone.
	change(small(1, 2, 0, 3), api.OK)
	expectSpots(t, k.Missing, fold.Spot{Side: 1, Col: 1})
	expectSpots(t, k.Wrong)
	expectReady(t, k, false)
	// With an error nothing changes.
	change(fold.Run{}, api.ErrMany)
	change(small(1, 2, 0, 129), api.ErrRange)
	change(makeRun(1, 2, 2), api.ErrArg)
	expectSpots(t, k.Missing, fold.Spot{Side: 1, Col: 1})
	expectSpots(t, k.Wrong)
	expectItems(t, k, hung...)
	change(small(1, 2, 0, 0), api.OK)
	expectReady(t, k, true)
	expectItems(t, k, hung...)
	// Ribbons and stacks may be others.
	change(makeRun(1, 2), api.OK)
	expectSpots(t, k.Missing)
	expectSpots(t, k.Wrong, fold.Spot{}, fold.Spot{Col: 1})
}

// P4.4: a rack without plates, of a run without pages, is ready.
func TestEmptyRack(t *testing.T) {
	k := newRack(t, makeRun(2, 3, 1))
	expectReady(t, k, true)
	expectSpots(t, k.Missing)
	expectSpots(t, k.Wrong)
	expectItems(t, k)
	burn(t, k, 1)
	expectReady(t, k, true)
}

// P4.4: runs that are of the same shape, and runs that are not.
func TestShapes(t *testing.T) {
	l := []fold.Run{makeRun(1, 2), makeRun(2, 2), makeRun(1, 1), makeRun(2, 1), makeRun(1, 4), makeRun(1, 2, 1), makeRun(1, 1, 2), makeRun(1, 1, 1), makeRun(1, 2, 2), makeRun(2, 1, 2), makeRun(1, 2, 1, 1)}
	for i, a := range l {
		for j, b := range l {
			want := api.ErrArg
			if i == j {
				want = api.OK
			}
			if e := newRack(t, a).Change(b); e != want {
				t.Error(i, j, e)
			}
			if spots, e := plate.Differ(a, b); e != want || len(spots) != 0 {
				t.Error(i, j, spots, e)
			}
		}
	}
}

// P4.4: the spots in which runs differ, in order, and the errors of the first run before those of the second.
func TestDiffer(t *testing.T) {
	for i, c := range []struct {
		a, b fold.Run
		want []fold.Spot
		e    api.Errno
	}{
		{small(3, 2, 4, 1), small(3, 5, 0, 1), []fold.Spot{{Col: 1}, {Side: 1}}, api.OK},
		{small(3, 5, 0, 1), small(3, 2, 4, 1), []fold.Spot{{Col: 1}, {Side: 1}}, api.OK},
		{small(3, 2, 4, 1), small(3, 2, 4, 1), nil, api.OK},
		{small(1, 2, 3, 4), small(2, 1, 4, 3), []fold.Spot{{}, {Col: 1}, {Side: 1}, {Side: 1, Col: 1}}, api.OK},
		{largest(), makeRun(2, 4, 4, 4, 4, 4, 4, 4, 4), spotsOf(largest()), api.OK},
		{fold.Run{}, small(1, 2, 3, 129), nil, api.ErrMany},
		{small(1, 2, 3, 129), fold.Run{}, nil, api.ErrRange},
		{small(1, 2, 3, 4), fold.Run{}, nil, api.ErrMany},
		{small(1, 2, 3, 4), small(1, 2, 3, 129), nil, api.ErrRange},
		{small(1, 2, 3, 4), makeRun(1, 4), nil, api.ErrArg},
		{makeRun(1, 4), small(1, 2, 3, 129), nil, api.ErrRange},
	} {
		if l, e := plate.Differ(c.a, c.b); e != c.e || !slices.Equal(l, c.want) {
			t.Error(i, l, e)
		}
	}
}

// P4.4: a rack with as many spots as there can be.
func TestLargestRack(t *testing.T) {
	r := largest()
	k := newRack(t, r)
	expectSpots(t, k.Missing, spotsOf(r)...)
	fill(t, k, r)
	expectReady(t, k, true)
	if e := k.Change(makeRun(2, 4, 4, 4, 4, 4, 4, 4, 4)); e != api.OK {
		t.Error(e)
	}
	expectSpots(t, k.Missing)
	expectSpots(t, k.Wrong, spotsOf(r)...)
	if n, e := k.Counts(); e != api.OK || !slices.Equal(n, []int{0, 0, 128, 0}) {
		t.Error(n, e)
	}
}

package plate_test

import (
	"math"
	"math/rand"
	"slices"
	"testing"

	"foldhouse/api"
	"foldhouse/fold"
	"foldhouse/plate"
)

// ledger is what a rack must be: its run, and its plates.
type ledger struct {
	run   fold.Run
	items []plate.Item
}

// act returns what an order does, and does it.
func (l *ledger) act(o plate.Order) (int, api.Errno) {
	if o.Kind < 1 || o.Kind > 5 {
		return 0, api.ErrCommand
	}
	if o.Kind == plate.Burn {
		if o.Page < 1 || o.Page > 128 {
			return 0, api.ErrRange
		}
		l.items = append(l.items, plate.Item{Page: o.Page, State: plate.Burnt})
		return len(l.items) - 1, api.OK
	}
	if o.Plate < 0 || o.Plate >= len(l.items) {
		return 0, api.ErrNone
	}
	item := &l.items[o.Plate]
	state := item.State
	switch {
	case o.Kind == plate.Bend && state == plate.Burnt:
		item.State = plate.Bent
	case o.Kind == plate.Take && state == plate.Hung:
		item.State, item.Spot = plate.Bent, fold.Spot{}
	case o.Kind == plate.Scrap && (state == plate.Burnt || state == plate.Bent):
		item.State = plate.Scrapped
	case o.Kind == plate.Hang && state == plate.Bent:
		if e := l.hang(*item, o.Spot); e != api.OK {
			return 0, e
		}
		item.State, item.Spot = plate.Hung, o.Spot
	default:
		return 0, api.ErrState
	}
	return o.Plate, api.OK
}

// hang returns the error of hanging a plate.
func (l *ledger) hang(item plate.Item, s fold.Spot) api.Errno {
	switch {
	case !slices.Contains(spotsOf(l.run), s):
		return api.ErrRange
	case l.at(s) != 0:
		return api.ErrTwice
	case pageAt(l.run, s) != item.Page:
		return api.ErrPage
	}
	return api.OK
}

// at returns the page of the plate that hangs on a spot, or 0.
func (l *ledger) at(s fold.Spot) int {
	for _, item := range l.items {
		if item.State == plate.Hung && item.Spot == s {
			return item.Page
		}
	}
	return 0
}

// expect checks all that a rack tells.
func (l *ledger) expect(t *testing.T, k *plate.Rack) {
	t.Helper()
	var missing, wrong []fold.Spot
	ready := true
	for _, s := range spotsOf(l.run) {
		page, hung := pageAt(l.run, s), l.at(s)
		if page != 0 && hung != page {
			missing = append(missing, s)
		}
		if hung != 0 && hung != page {
			wrong = append(wrong, s)
		}
		ready = ready && page == hung
	}
	expectItems(t, k, l.items...)
	expectSpots(t, k.Missing, missing...)
	expectSpots(t, k.Wrong, wrong...)
	expectReady(t, k, ready)
}

// anyOrder returns an order that is often carried out.
func anyOrder(rnd *rand.Rand, r fold.Run, plates int) plate.Order {
	kinds := []plate.Kind{plate.Burn, plate.Bend, plate.Bend, plate.Hang, plate.Hang, plate.Hang, plate.Hang, plate.Take}
	o := plate.Order{Kind: kinds[rnd.Intn(len(kinds))], Page: 1 + rnd.Intn(3), Plate: rnd.Intn(plates + 1)}
	o.Spot = spotsOf(r)[rnd.Intn(len(spotsOf(r)))]
	switch rnd.Intn(40) {
	case 0:
		o.Kind = plate.Kind(anyNumber(rnd))
	case 1:
		o.Page = anyNumber(rnd)
	case 2:
		o.Plate = anyNumber(rnd)
	case 3:
		o.Spot = fold.Spot{Web: anyNumber(rnd), Side: anyNumber(rnd), Row: anyNumber(rnd), Col: anyNumber(rnd)}
	case 4, 5, 6:
		o.Kind = plate.Scrap
	}
	return o
}

// anyNumber returns a number that is mostly near the limits.
func anyNumber(rnd *rand.Rand) int {
	l := []int{0, 0, 0, 1, 1, 2, 3, 4, 5, -1, 128, 129, 9999, 10000, math.MaxInt, math.MinInt}
	return l[rnd.Intn(len(l))]
}

// P4.3, P4.4: what any orders do.
func TestAnyOrders(t *testing.T) {
	rnd := rand.New(rand.NewSource(6))
	done := map[plate.Kind]map[api.Errno]int{}
	for range 200 {
		r := withPages(anyShape(rnd), rnd)
		k, l := newRack(t, r), &ledger{run: r}
		for range 60 {
			if rnd.Intn(15) == 0 {
				l.run = changedPages(l.run, rnd)
				if e := k.Change(l.run); e != api.OK {
					t.Error(e)
				}
			}
			o := anyOrder(rnd, l.run, len(l.items))
			n, e := l.act(o)
			expectAct(t, k, o, n, e)
			l.expect(t, k)
			if done[o.Kind] == nil {
				done[o.Kind] = map[api.Errno]int{}
			}
			done[o.Kind][e]++
		}
	}
	for _, kind := range []plate.Kind{plate.Burn, plate.Bend, plate.Hang, plate.Take, plate.Scrap} {
		if done[kind][api.OK] < 50 {
			t.Error(done)
		}
	}
	for _, e := range []api.Errno{api.ErrNone, api.ErrState, api.ErrRange, api.ErrTwice, api.ErrPage} {
		if done[plate.Hang][e] < 20 {
			t.Error(done)
		}
	}
}

// P4.5: if a rack is ready, its plates print the run; after a change just the spots in which the runs differ are wrong or missing.
func TestReadyRack(t *testing.T) {
	rnd := rand.New(rand.NewSource(7))
	for range 300 {
		a := withPages(anyShape(rnd), rnd)
		k := newRack(t, a)
		fill(t, k, a)
		expectReady(t, k, true)
		printed := copyOf(a)
		for _, s := range spotsOf(a) {
			setPage(printed, s, 0)
		}
		items, _ := k.Items()
		for _, item := range items {
			setPage(printed, item.Spot, item.Page)
		}
		if len(differing(a, printed)) > 0 {
			t.Errorf("%v: %v", items, a)
		}
		b := changedPages(a, rnd)
		if e := k.Change(b); e != api.OK {
			t.Fatal(e)
		}
		missing, _ := k.Missing()
		wrong, _ := k.Wrong()
		differ, e := plate.Differ(a, b)
		want := differing(a, b)
		if e != api.OK || !slices.Equal(differ, want) {
			t.Errorf("%v %v, not %v", differ, e, want)
		}
		for _, s := range spotsOf(a) {
			if is := slices.Contains(missing, s) || slices.Contains(wrong, s); is != slices.Contains(want, s) {
				t.Error(s, missing, wrong, want)
			}
		}
		expectReady(t, k, len(want) == 0)
	}
}

// spoil changes all that a run refers to.
func spoil(r fold.Run) {
	for _, w := range r.Webs {
		for i := range w.Plates {
			w.Plates[i] = fold.Plate{Page: 99, Upside: true}
		}
	}
	clear(r.Webs)
	clear(r.Ribbons)
	for _, stack := range r.Stacks {
		clear(stack)
	}
	clear(r.Stacks)
}

// R4: a rack shares no memory with a run, and none with what it returns.
func TestMemoryOfRack(t *testing.T) {
	r, next := small(3, 2, 4, 1), small(3, 5, 0, 1)
	k := newRack(t, r)
	spoil(r)
	fill(t, k, small(3, 2, 4, 1))
	expectReady(t, k, true)
	if e := k.Change(next); e != api.OK {
		t.Fatal(e)
	}
	spoil(next)
	l := &ledger{run: small(3, 5, 0, 1), items: []plate.Item{{Page: 3, State: plate.Hung}, {Page: 2, State: plate.Hung, Spot: fold.Spot{Col: 1}}, {Page: 4, State: plate.Hung, Spot: fold.Spot{Side: 1}}, {Page: 1, State: plate.Hung, Spot: fold.Spot{Side: 1, Col: 1}}}}
	l.expect(t, k)
	items, _ := k.Items()
	missing, _ := k.Missing()
	wrong, _ := k.Wrong()
	counts, _ := k.Counts()
	clear(items)
	_ = append(items, plate.Item{Page: 99})
	clear(missing)
	clear(wrong)
	clear(counts)
	l.expect(t, k)
	// Items that were returned stay as they were.
	items, _ = k.Items()
	act(t, k, plate.Order{Kind: plate.Take, Plate: 1})
	if !slices.Equal(items, l.items) {
		t.Error(items)
	}
}

// R4: racks of one run are independent of each other.
func TestTwoRacks(t *testing.T) {
	r := small(3, 2, 4, 1)
	a, b := newRack(t, r), newRack(t, r)
	fill(t, a, r)
	expectReady(t, a, true)
	(&ledger{run: r}).expect(t, b)
	if e := b.Change(small(0, 0, 0, 0)); e != api.OK {
		t.Error(e)
	}
	expectReady(t, a, true)
	expectReady(t, b, true)
}

// R4: no argument is changed.
func TestMemory(t *testing.T) {
	rnd := rand.New(rand.NewSource(8))
	for range 300 {
		l, setters := anyTasks(rnd)
		tasks := slices.Clone(l)
		slots, _ := plate.Expose(l, setters)
		before := slices.Clone(slots)
		plate.Verify(l, setters, slots)
		plate.Overload(l, setters)
		plate.Setters(l)
		kept, _ := plate.Keep(l, setters)
		if !slices.Equal(l, tasks) || !slices.Equal(slots, before) {
			t.Error(l, tasks, slots, before)
		}
		clear(slots)
		clear(kept)
		met := []int{rnd.Intn(9), rnd.Intn(9), rnd.Intn(9), 99}[:3]
		positions := slices.Clone(met[:4])
		way, _ := plate.Turns(9, 4, met)
		clear(way)
		if !slices.Equal(met[:4], positions) {
			t.Error(met[:4], positions)
		}
		a := withPages(anyShape(rnd), rnd)
		b := changedPages(a, rnd)
		x, y := copyOf(a), copyOf(b)
		plate.Differ(a, b)
		k := newRack(t, a)
		k.Change(b)
		fill(t, k, b)
		for i := range a.Webs {
			if !slices.Equal(a.Webs[i].Plates, x.Webs[i].Plates) || !slices.Equal(b.Webs[i].Plates, y.Webs[i].Plates) {
				t.Error(a, x, b, y)
			}
		}
	}
}

// R5: a rack that New did not return.
func TestNoRack(t *testing.T) {
	made := *newRack(t, small(1, 2, 3, 4))
	for i, k := range []*plate.Rack{nil, {}, new(plate.Rack), &made} {
		n, e1 := k.Act(plate.Order{Kind: plate.Burn, Page: 1})
		_, e2 := k.Act(plate.Order{Kind: 99})
		e3 := k.Change(small(1, 2, 3, 4))
		e4 := k.Change(fold.Run{})
		items, e5 := k.Items()
		missing, e6 := k.Missing()
		wrong, e7 := k.Wrong()
		ready, e8 := k.Ready()
		counts, e9 := k.Counts()
		for j, e := range []api.Errno{e1, e2, e3, e4, e5, e6, e7, e8, e9} {
			if e != api.ErrNil {
				t.Error(i, j, e)
			}
		}
		if n != 0 || items != nil || missing != nil || wrong != nil || ready || counts != nil {
			t.Error(i, n, items, missing, wrong, ready, counts)
		}
	}
}

// P8: no function panics, and with an error there is no result.
func TestAnyArguments(t *testing.T) {
	rnd := rand.New(rand.NewSource(9))
	for range 3000 {
		l, setters := anyTasks(rnd)
		if len(l) > 0 && rnd.Intn(2) == 0 {
			l[rnd.Intn(len(l))] = plate.Task{Ready: anyNumber(rnd), Due: anyNumber(rnd)}
		}
		if rnd.Intn(4) == 0 {
			setters = anyNumber(rnd)
		}
		slots, e1 := plate.Expose(l, setters)
		e2 := plate.Verify(l, setters, []int{anyNumber(rnd), anyNumber(rnd)})
		span, e3 := plate.Overload(l, setters)
		e4 := plate.Refute(l, setters, api.Span{Lo: anyNumber(rnd), Hi: anyNumber(rnd)})
		n, e5 := plate.Setters(l)
		kept, e6 := plate.Keep(l, setters)
		way, e7 := plate.Turns(anyNumber(rnd), anyNumber(rnd), []int{anyNumber(rnd), anyNumber(rnd)})
		if e := plate.Check(l); e != api.OK {
			for i, got := range []api.Errno{e1, e2, e3, e4, e5, e6} {
				if got != e {
					t.Error(i, got, e, l)
				}
			}
		}
		if e1 != api.OK && slots != nil || e3 != api.OK && span != (api.Span{}) || e5 != api.OK && n != 0 || e6 != api.OK && kept != nil || e7 != api.OK && way != nil {
			t.Error(l, setters, slots, span, n, kept, way)
		}
	}
}

// P8: no method panics, whatever the run.
func TestAnyRuns(t *testing.T) {
	rnd := rand.New(rand.NewSource(10))
	for range 1000 {
		r := withPages(anyShape(rnd), rnd)
		w := &r.Webs[rnd.Intn(len(r.Webs))]
		switch rnd.Intn(6) {
		case 0:
			w.Cols = anyNumber(rnd)
		case 1:
			w.Rows = anyNumber(rnd)
		case 2:
			w.Plates = w.Plates[:rnd.Intn(len(w.Plates))]
		case 3:
			w.Plates[0].Page = anyNumber(rnd)
		case 4:
			r.Ribbons[0].Col = anyNumber(rnd)
		}
		want := fold.Check(r)
		k, e := plate.New(r)
		_, differ := plate.Differ(r, r)
		change := newRack(t, makeRun(1, 1)).Change(r)
		if e != want || differ != want || (k != nil) != (e == api.OK) || want != api.OK && change != want {
			t.Errorf("%v %v %v, not %v: %+v", e, differ, change, want, r)
		}
	}
}

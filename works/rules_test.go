package works_test

import (
	"math"
	"math/rand"
	"reflect"
	"slices"
	"testing"

	"foldhouse/api"
	"foldhouse/count"
	"foldhouse/edition"
	"foldhouse/impose"
	"foldhouse/mail"
	"foldhouse/press"
	"foldhouse/reel"
	"foldhouse/works"
)

// R5: a night that no function returned does nothing.
func TestNoNight(t *testing.T) {
	other := *begin(t, example())
	for i, w := range []*works.Works{nil, {}, new(works.Works), &other} {
		var all []api.Errno
		for kind := range works.Kind(11) {
			n, e := w.Do(works.Order{Kind: kind})
			if all = append(all, e); n != 0 {
				t.Error(i, kind, n)
			}
		}
		s, e1 := w.Status()
		order, plan, e2 := w.Plan()
		items, e3 := w.Items()
		state, e4 := w.State()
		marks, e5 := w.Marks()
		all = append(all, e1, e2, e3, e4, e5)
		if s != (works.Status{}) || order != nil || plan.Cols != nil || plan.Stacks != nil || items != nil || state.Units != nil || marks != nil {
			t.Error(i, s, order, plan, items, state, marks)
		}
		for _, copy := range []int{-1, 0, 9} {
			edition, zone, e := w.Which(copy)
			if all = append(all, e); edition != 0 || zone != 0 {
				t.Error(i, edition, zone)
			}
		}
		bundles, e6 := w.Bundles()
		entries, e7 := w.Entries()
		c, e8 := w.Copy()
		if all = append(all, e6, e7, e8); bundles != nil || entries != nil || c != nil {
			t.Error(i, bundles, entries, c)
		}
		if slices.ContainsFunc(all, func(e api.Errno) bool { return e != api.ErrNil }) {
			t.Error(i, all)
		}
	}
}

// R5: nights that New and Copy returned are nights.
func TestNights(t *testing.T) {
	w := begin(t, example())
	c, _ := w.Copy()
	d, _ := c.Copy()
	for _, w := range []*works.Works{w, c, d} {
		expectDo(t, w, hang, 4, api.OK)
		expectStatus(t, w, works.Status{Hung: true, Want: 5})
	}
}

// R3: nil and empty lists are the same.
func TestEmpty(t *testing.T) {
	s := example()
	s.Title.Pairs, s.Title.Ready, s.Job.Panoramas = []int{}, []edition.Ready{}, []impose.Spread{}
	s.Line.Repair, s.Line.Zones, s.Drops = []int{}, [][]int{{}}, []mail.Drop{}
	w := begin(t, s)
	do(t, w, hang, start, printing(9), stop, next)
	expectDo(t, w, works.Order{Kind: works.Mail, Faults: []mail.Fault{}}, 0, api.OK)
	refuse(t, w, api.ErrArg, shutting(3, []int{}...), shutting(3))
}

// full returns a setup that has something in each list.
func full() works.Setup {
	s := twoTowers()
	s.Title.Pairs = []int{2}
	s.Title.Ready = []edition.Ready{{Page: 3, At: 1}}
	s.Title.Zones[1].Due = 4
	s.Job.Panoramas = []impose.Spread{{Index: 3}}
	s.Paper.Webs[0] = reel.Web{After: 1, Reels: []reel.Reel{cutReel(1, 6000), cutReel(2, 20000)}}
	s.Line.Hoppers = []mail.Hopper{{Part: 5, Watch: 2}}
	s.Line.Repair, s.Line.Zones[0] = []int{5}, []int{5}
	return s
}

// spoil changes all that the lists of a setup have, most of it to what is not allowed.
func spoil(s works.Setup) {
	clear(s.Title.Colours)
	s.Title.Pairs[0] = -1
	s.Title.Ready[0].At = -1
	for _, z := range s.Title.Zones {
		clear(z.Variants)
	}
	clear(s.Title.Zones)
	for _, x := range s.Job.Towers {
		clear(x.Colour[0])
		clear(x.Colour[1])
	}
	clear(s.Job.Towers)
	for _, section := range s.Job.Sections {
		clear(section)
	}
	clear(s.Job.Sections)
	s.Job.Panoramas[0].Index = -1
	for i := range s.Press.Jammed {
		s.Press.Jammed[i] = true
	}
	for _, web := range s.Paper.Webs {
		clear(web.Reels)
	}
	clear(s.Paper.Webs)
	clear(s.Line.Hoppers)
	clear(s.Line.Repair)
	for _, parts := range s.Line.Zones {
		clear(parts)
	}
	clear(s.Line.Zones)
	clear(s.Drops)
}

// spoilResults changes all that a night has given out.
func spoilResults(w *works.Works) {
	order, plan, _ := w.Plan()
	clear(order[:cap(order)])
	clear(plan.Cols[:cap(plan.Cols)])
	for _, stack := range plan.Stacks {
		clear(stack[:cap(stack)])
	}
	clear(plan.Stacks[:cap(plan.Stacks)])
	items, _ := w.Items()
	clear(items[:cap(items)])
	state, _ := w.State()
	clear(state.Units[:cap(state.Units)])
	marks, _ := w.Marks()
	clear(marks[:cap(marks)])
	bundles, _ := w.Bundles()
	for _, b := range bundles {
		clear(b.Copies[:cap(b.Copies)])
	}
	clear(bundles[:cap(bundles)])
	entries, _ := w.Entries()
	clear(entries[:cap(entries)])
}

// R4: a night shares no memory with its setup, with orders, or with its results.
func TestMemory(t *testing.T) {
	s := full()
	w, m := begin(t, s), newModel(full())
	if !reflect.DeepEqual(s, full()) {
		t.Fatal("the setup is changed")
	}
	spoil(s)
	faults, counted := []mail.Fault{{Copy: 4}, {Copy: 3}}, []int{1, 9000}
	for _, o := range []works.Order{hang, start, printing(3), tear(1), start, printing(5), stop, next, wash(0), hang, start, printing(9), stop, next, mailing(faults...), shutting(3, counted...)} {
		n, e := m.do(o)
		if e != api.OK {
			t.Fatal(o, e)
		}
		expectDo(t, w, o, n, e)
		spoilResults(w)
		m.expect(t, w)
		c, _ := w.Copy()
		spoilResults(c)
		m.expect(t, c)
	}
	if !slices.Equal(faults, []mail.Fault{{Copy: 4}, {Copy: 3}}) || !slices.Equal(counted, []int{1, 9000}) {
		t.Error(faults, counted)
	}
	clear(faults)
	clear(counted)
	m.expect(t, w)
	m.expectCopies(t, w)
}

// R2: the orders that are refused at each step of a night change nothing.
func TestRefused(t *testing.T) {
	w, m := begin(t, full()), newModel(full())
	for _, o := range []works.Order{hang, start, printing(3), tear(1), start, printing(5), stop, next, hang, start, printing(9), stop, next, mailing(), shutting(3, 0, 9000)} {
		for kind := range works.Kind(11) {
			for _, n := range []int{math.MinInt, -1, 999, math.MaxInt} {
				x := works.Order{Kind: kind, N: n, Faults: []mail.Fault{{Copy: 4}, {Copy: 4}}, Counted: []int{1, -1}}
				if kind == works.Stop || kind == works.Hang || kind == works.Start || kind == works.Next {
					continue
				}
				got, e := w.Do(x)
				if got != 0 || e == api.OK {
					t.Fatal(x, got, e)
				}
				m.expect(t, w)
			}
		}
		n, e := m.do(o)
		expectDo(t, w, o, n, e)
	}
}

// wild returns a number that is mostly near a limit.
func wild(rnd *rand.Rand) int {
	limits := []int{0, 0, 1, 2, 4, 10, 24, 128, 1000, 10000, 86400, 1000000, 20000000, math.MaxInt, math.MinInt, math.MaxInt / 4}
	return limits[rnd.Intn(len(limits))]*(1-2*rnd.Intn(2)) + rnd.Intn(3) - 1
}

// wildSetup returns a setup in which some numbers and lists are not allowed.
func wildSetup(rnd *rand.Rand) works.Setup {
	s := anySetup(rnd)
	for range rnd.Intn(3) {
		numbers := []*int{&s.Title.Rate, &s.Title.Start, &s.Title.Stop, &s.Title.Hang, &s.Title.Zones[0].Copies, &s.Title.Zones[0].Due, &s.Title.Zones[0].Variants[0], &s.Title.Colours[0], &s.Job.Rows, &s.Job.Towers[0].Cols, &s.Press.Warm, &s.Press.Tail, &s.Press.Dirt, &s.Paper.Cut, &s.Paper.Margin, &s.Paper.Webs[0].Offset, &s.Paper.Webs[0].Before, &s.Paper.Webs[0].Reels[0].Length, &s.Paper.Webs[0].Reels[0].Core, &s.Line.Batch, &s.Line.Hoppers[0].Part, &s.Drops[0].Copies, &s.Drops[0].Zone, &s.Pack.Size, &s.Pack.Least}
		*numbers[rnd.Intn(len(numbers))] = wild(rnd)
	}
	for range rnd.Intn(2) {
		switch rnd.Intn(9) {
		case 0:
			s.Title.Colours = s.Title.Colours[1:]
		case 1:
			s.Title.Zones[0].Variants = nil
		case 2:
			s.Job.Towers[0].Colour[1] = nil
		case 3:
			s.Job.Sections = append(s.Job.Sections, make([]impose.Leaf, rnd.Intn(30)))
		case 4:
			s.Job.Panoramas = []impose.Spread{{Section: wild(rnd), Index: wild(rnd)}}
		case 5:
			s.Press.Jammed = append(s.Press.Jammed, false)
		case 6:
			s.Paper.Webs = append(s.Paper.Webs, reel.Web{})
		case 7:
			s.Line.Zones = append(s.Line.Zones, []int{wild(rnd)})
		case 8:
			s.Title.Ready = append(s.Title.Ready, edition.Ready{Page: wild(rnd), Variant: wild(rnd), At: wild(rnd)})
		}
	}
	return s
}

// P8: no function panics, whatever the setup; one that is right begins a night that takes any orders.
func TestWild(t *testing.T) {
	rnd := rand.New(rand.NewSource(1406))
	right, wrong := 0, 0
	for range 1500 {
		s := wildSetup(rnd)
		w, e := works.New(s)
		if works.Check(s) != e || (w == nil) != (e != api.OK) {
			t.Fatal(s, w, e)
		}
		if e != api.OK {
			wrong++
			continue
		}
		right++
		m := newModel(s)
		for range 12 {
			o := anyOrder(rnd, m)
			if rnd.Intn(3) == 0 {
				o.N = wild(rnd)
			}
			if rnd.Intn(3) == 0 {
				o.Counted = []int{wild(rnd), wild(rnd)}
				o.Faults = append(o.Faults, mail.Fault{Copy: wild(rnd), Hopper: wild(rnd)})
			}
			n, e := m.do(o)
			expectDo(t, w, o, n, e)
			m.expect(t, w)
			expectWhich(t, w, -1-rnd.Intn(9), 0, 0, api.ErrRange)
		}
	}
	if right < 200 || wrong < 500 {
		t.Error("not enough", right, wrong)
	}
}

// P14.4: a press that stands still takes no plate that is wrong, also after many editions.
func TestManyEditions(t *testing.T) {
	s := example()
	s.Job.Rows = 2
	s.Job.Towers = []impose.Tower{tower(4), tower(4), tower(4)}
	s.Job.Sections = [][]impose.Leaf{make([]impose.Leaf, 24)}
	s.Title.Colours = slices.Repeat([]int{1}, 24)
	s.Title.Zones = nil
	for variant := range 4 {
		s.Title.Zones = append(s.Title.Zones, zone(1, slices.Repeat([]int{variant}, 24)...))
	}
	s.Press.Jammed = make([]bool, 3)
	s.Press.Warm = 0
	s.Paper.Webs = nil
	for i := range 3 {
		s.Paper.Webs = append(s.Paper.Webs, reel.Web{Reels: []reel.Reel{cutReel(i, 20000)}})
	}
	s.Line.Zones, s.Drops = make([][]int, 4), nil
	w, m := begin(t, s), newModel(s)
	for range 4 {
		for _, o := range []works.Order{hang, start, printing(4), stop, next} {
			n, e := m.do(o)
			expectDo(t, w, o, n, e)
			m.expect(t, w)
			m.expectWhole(t, w)
		}
	}
	items, _ := w.Items()
	if len(items) != 4*48 {
		t.Error(len(items))
	}
	expectMarks(t, w, []count.Mark{}...)
	if x := stateOf(t, w); x.Drive != press.Stopped {
		t.Error(x)
	}
}

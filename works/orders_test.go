package works_test

import (
	"math"
	"slices"
	"testing"

	"foldhouse/api"
	"foldhouse/edition"
	"foldhouse/mail"
	"foldhouse/plate"
	"foldhouse/press"
	"foldhouse/reel"
	"foldhouse/works"
)

// Example 1 of the chapter.
func TestExampleOfNight(t *testing.T) {
	w := begin(t, example())
	expectDo(t, w, hang, 4, api.OK)
	expectDo(t, w, start, 5, api.OK)
	expectDo(t, w, printing(10), 7, api.OK)
	expectStatus(t, w, works.Status{Hung: true, Printed: 7, Good: 5, Want: 5, Drive: press.Running})
	expectDo(t, w, stop, 3, api.OK)
	expectDo(t, w, next, 1, api.OK)
	expectDo(t, w, mailing(), 1, api.OK)
	expectDo(t, w, shutting(3, 0, 13000), 5, api.OK)
	expectStatus(t, w, works.Status{At: 1, Edition: -1, Mailed: true, Shut: true, Printed: 7})
	expectEntries(t, w, entry(0, 1, 7, 3), entry(1, 2, 2, 3), entry(1, 3, 5, 3), entry(4, 5, 20000, 3), entry(5, 6, 7000, 3))
}

// Example 2 of the chapter.
func TestExampleOfBreak(t *testing.T) {
	w := begin(t, example())
	do(t, w, hang, start, printing(10))
	expectDo(t, w, tear(0), 1, api.OK)
	expectStatus(t, w, works.Status{Hung: true, Printed: 7, Good: 4, Want: 5})
	expectDo(t, w, start, 5, api.OK)
	expectDo(t, w, printing(10), 3, api.OK)
	expectStatus(t, w, works.Status{Hung: true, Printed: 10, Good: 5, Want: 5, Drive: press.Running})
	expectMarks(t, w, mark(1, 0, 1), mark(9, 6, 6), mark(1, 7, 8))
}

// P14.2: orders that are none.
func TestKinds(t *testing.T) {
	if works.Hang != 1 || works.Start != 2 || works.Print != 3 || works.Break != 4 || works.Stop != 5 || works.Next != 6 || works.Mail != 7 || works.Shut != 8 || works.Wash != 9 {
		t.Error("kinds are not numbered as they must be")
	}
	if works.MaxPrint != 10000 || works.Lost != 9 || works.Spliced != 3 {
		t.Error("constants are not as they must be")
	}
	w := begin(t, example())
	for _, kind := range []works.Kind{math.MinInt, -1, 0, 10, 11, math.MaxInt} {
		refuse(t, w, api.ErrCommand, works.Order{Kind: kind}, works.Order{Kind: kind, N: -1, Faults: []mail.Fault{{Copy: -1}}, Counted: []int{-1}})
	}
}

// P14.2: what an order has that its Kind does not name does not matter.
func TestNotNamed(t *testing.T) {
	s := example()
	w := begin(t, s)
	m := newModel(s)
	for _, o := range []works.Order{hang, start, printing(10), stop, next, mailing(mail.Fault{Copy: 9})} {
		if o.Kind != works.Print {
			o.N = math.MinInt
		}
		if o.Kind != works.Mail {
			o.Faults = []mail.Fault{{Copy: -1}}
		}
		o.Counted = []int{-1}
		n, e := m.do(o)
		expectDo(t, w, o, n, e)
	}
	expectStatus(t, w, works.Status{At: 1, Edition: -1, Printed: 7})
	expectDo(t, w, mailing(), 1, api.OK)
	o := shutting(3, 0, 13000)
	o.Faults = []mail.Fault{{Copy: -1}}
	expectDo(t, w, o, 5, api.OK)
}

// P14.2: plates of two rows are hung for each row; of another edition only those that are wrong are scrapped.
func TestHang(t *testing.T) {
	s := example()
	s.Job.Rows = 2
	s.Title.Zones = []edition.Zone{zone(2, 0, 0, 0, 0), zone(1, 0, 3, 0, 1), zone(2, 0, 3, 0, 0)}
	s.Line.Zones = make([][]int, 3)
	w := begin(t, s)
	expectDo(t, w, hang, 8, api.OK)
	in := func(row int, x plate.Item) plate.Item {
		x.Spot.Row = row
		return x
	}
	items := []plate.Item{hung(3, 0, 0), hung(2, 0, 1), in(1, hung(3, 0, 0)), in(1, hung(2, 0, 1)), hung(4, 1, 0), hung(1, 1, 1), in(1, hung(4, 1, 0)), in(1, hung(1, 1, 1))}
	expectItems(t, w, items...)
	do(t, w, start, printing(9), stop)
	expectItems(t, w, items...)
	do(t, w, next)
	expectItems(t, w, items...)
	// The best order is 0, 2, 1: one plate more for each change.
	expectStatus(t, w, works.Status{At: 1, Edition: 2, Printed: 4, Want: 2})
	expectDo(t, w, hang, 2, api.OK)
	items[1], items[3] = plate.Item{Page: 2, State: plate.Scrapped}, plate.Item{Page: 2, State: plate.Scrapped}
	items = append(items, hung(14, 0, 1), in(1, hung(14, 0, 1)))
	expectItems(t, w, items...)
	do(t, w, start, printing(9), stop, next)
	expectDo(t, w, hang, 2, api.OK)
	items[4], items[6] = plate.Item{Page: 4, State: plate.Scrapped}, plate.Item{Page: 4, State: plate.Scrapped}
	expectItems(t, w, append(items, hung(8, 1, 0), in(1, hung(8, 1, 0)))...)
}

// P14.2: the errors of Hang, of Start and of Next.
func TestErrorsOfEditions(t *testing.T) {
	w := begin(t, example())
	refuse(t, w, api.ErrOrder, start, next, printing(0))
	expectItems(t, w)
	do(t, w, hang)
	refuse(t, w, api.ErrOrder, hang)
	refuse(t, w, api.ErrState, next)
	do(t, w, start)
	refuse(t, w, api.ErrOrder, hang)
	refuse(t, w, api.ErrGuard, next)
	do(t, w, printing(6))
	refuse(t, w, api.ErrGuard, next)
	do(t, w, stop)
	refuse(t, w, api.ErrState, next)
	do(t, w, start, printing(3))
	expectStatus(t, w, works.Status{Hung: true, Printed: 9, Good: 5, Want: 5, Drive: press.Running})
	refuse(t, w, api.ErrGuard, next)
	do(t, w, stop)
	expectDo(t, w, next, 1, api.OK)
	refuse(t, w, api.ErrOrder, hang, start, next, printing(0))
	refuse(t, w, api.ErrRange, printing(-1))
}

// P14.2: a press that cannot be started.
func TestJammed(t *testing.T) {
	s := example()
	s.Press.Jammed[0] = true
	w := begin(t, s)
	do(t, w, hang)
	refuse(t, w, api.ErrNone, start)
	refuse(t, w, api.ErrGuard, wash(0), tear(0), printing(0))
	expectDo(t, w, stop, 0, api.OK)
	if x := stateOf(t, w); x.Drive != press.Stopped || x.Units[0] != (press.Unit{}) {
		t.Error(x)
	}
}

// P14.2: Start and Stop take no action if the press is as it must be; only the towers of the plan are started.
func TestStartAndStop(t *testing.T) {
	w := begin(t, twoTowers())
	expectDo(t, w, stop, 0, api.OK)
	do(t, w, hang)
	expectDo(t, w, start, 5, api.OK)
	expectDo(t, w, start, 0, api.OK)
	if x := stateOf(t, w); x.Drive != press.Running || x.Units[0] != (press.Unit{}) || x.Units[1] != (press.Unit{Threaded: true, Clean: true, Pressed: true}) {
		t.Error(x)
	}
	expectDo(t, w, stop, 3, api.OK)
	expectDo(t, w, stop, 0, api.OK)
	if x := stateOf(t, w); x.Drive != press.Stopped || x.Units[1] != (press.Unit{Threaded: true, Clean: true}) {
		t.Error(x)
	}
	expectDo(t, w, start, 3, api.OK)
}

// P14.2: the errors of Print, in their order.
func TestErrorsOfPrint(t *testing.T) {
	w := begin(t, example())
	refuse(t, w, api.ErrRange, printing(-1), printing(10001), printing(math.MinInt), printing(math.MaxInt))
	refuse(t, w, api.ErrOrder, printing(0), printing(21), printing(10000))
	do(t, w, hang)
	refuse(t, w, api.ErrRange, printing(-1), printing(10001))
	refuse(t, w, api.ErrGuard, printing(0), printing(21), printing(10000))
	do(t, w, start)
	refuse(t, w, api.ErrRange, printing(-1), printing(10001), printing(math.MinInt), printing(math.MaxInt))
	refuse(t, w, api.ErrReel, printing(21), printing(10000))
	expectDo(t, w, printing(0), 0, api.OK)
	expectDo(t, w, printing(3), 3, api.OK)
	refuse(t, w, api.ErrReel, printing(18))
	expectDo(t, w, printing(17), 4, api.OK)
	// Also if no copy is needed the paper must reach.
	refuse(t, w, api.ErrReel, printing(14))
	expectDo(t, w, printing(13), 0, api.OK)
	do(t, w, stop)
	refuse(t, w, api.ErrGuard, printing(0))
	refuse(t, w, api.ErrGuard, printing(14))
}

// P14.2: 10000 copies of one order, and all copies that there can be.
func TestManyCopies(t *testing.T) {
	s := example()
	s.Title.Zones[0].Copies, s.Title.Rate = 60000, 3000
	s.Press = press.Press{Jammed: []bool{false}, Warm: 10, Dirt: 10000}
	s.Paper.Cut = 300
	s.Paper.Webs[0].Reels[0].Length = reel.MaxLength
	w := begin(t, s)
	do(t, w, hang)
	for i := range 6 {
		do(t, w, wash(0), start)
		expectDo(t, w, printing(10000), 10000, api.OK)
		do(t, w, stop)
		expectStatus(t, w, works.Status{Hung: true, Printed: 10000 * (i + 1), Good: 9990 * (i + 1), Want: 60000})
	}
	do(t, w, start)
	refuse(t, w, api.ErrReel, printing(6667))
	do(t, w, stop, wash(0), start)
	expectDo(t, w, printing(6666), 70, api.OK)
	do(t, w, stop, next)
	expectStatus(t, w, works.Status{At: 1, Edition: -1, Printed: 60070})
	// The mailroom has not room for all of them.
	refuse(t, w, api.ErrMany, mailing())
}

// P14.2: copies that splices spoil are thrown out, also if the splice is printed later.
func TestSplices(t *testing.T) {
	s := example()
	s.Title.Zones[0].Copies = 7
	s.Press.Warm, s.Press.Tail = 1, 4
	s.Paper.Margin = 1
	s.Paper.Webs[0] = reel.Web{After: 1, Reels: []reel.Reel{cutReel(1, 5000), cutReel(2, 15000)}}
	w := begin(t, s)
	do(t, w, hang, start)
	// The copies 4 to 6 are thrown out, as copy 5 has the splice.
	expectDo(t, w, printing(5), 5, api.OK)
	expectMarks(t, w, mark(1, 0, 0), mark(3, 4, 4))
	expectStatus(t, w, works.Status{Hung: true, Printed: 5, Good: 3, Want: 7, Drive: press.Running})
	expectDo(t, w, printing(3), 3, api.OK)
	expectMarks(t, w, mark(1, 0, 0), mark(3, 4, 6))
	// Of the lost copies 4 to 7 only the last one was good.
	expectDo(t, w, tear(0), 4, api.OK)
	expectMarks(t, w, mark(1, 0, 0), mark(3, 4, 6), mark(9, 7, 7))
	expectStatus(t, w, works.Status{Hung: true, Printed: 8, Good: 3, Want: 7})
	do(t, w, start)
	expectDo(t, w, printing(12), 5, api.OK)
	expectMarks(t, w, mark(1, 0, 0), mark(3, 4, 6), mark(9, 7, 7), mark(1, 8, 8))
}

// P14.2: a copy that more than one cause spoils has the least one.
func TestLeastCause(t *testing.T) {
	s := example()
	s.Press = press.Press{Jammed: []bool{false}, Warm: 2, Tail: 9, Dirt: 4}
	s.Paper.Margin = 2
	s.Paper.Webs[0] = reel.Web{After: 1, Reels: []reel.Reel{cutReel(1, 3000), cutReel(2, 27000)}}
	w := begin(t, s)
	do(t, w, hang, start, printing(5))
	// The splice throws out the copies 1 to 5; 0 and 1 are warm, and those from 4 on dirty.
	expectMarks(t, w, mark(1, 0, 1), mark(3, 2, 3), mark(2, 4, 4))
	expectDo(t, w, tear(0), 5, api.OK)
	expectMarks(t, w, mark(1, 0, 1), mark(3, 2, 3), mark(2, 4, 4))
	do(t, w, start, printing(4), stop, start)
	expectMarks(t, w, mark(1, 0, 1), mark(3, 2, 3), mark(2, 4, 4), mark(1, 5, 6))
	do(t, w, printing(1))
	expectMarks(t, w, mark(1, 0, 1), mark(3, 2, 3), mark(2, 4, 4), mark(1, 5, 6), mark(1, 9, 9))
}

// P14.2: where the web can tear, and where it cannot.
func TestBreaks(t *testing.T) {
	w := begin(t, twoTowers())
	for _, n := range []int{math.MinInt, -1, 2, math.MaxInt} {
		refuse(t, w, api.ErrArg, tear(n))
	}
	refuse(t, w, api.ErrGuard, tear(0), tear(1))
	do(t, w, hang, start)
	refuse(t, w, api.ErrGuard, tear(0))
	expectDo(t, w, tear(1), 0, api.OK)
	expectMarks(t, w)
	refuse(t, w, api.ErrGuard, tear(1), printing(1))
	do(t, w, start, printing(1))
	expectDo(t, w, tear(1), 1, api.OK)
	expectMarks(t, w, mark(1, 0, 0))
	do(t, w, start, printing(4))
	expectDo(t, w, tear(1), 2, api.OK)
	expectMarks(t, w, mark(1, 0, 1), mark(9, 3, 4))
	expectStatus(t, w, works.Status{Edition: 1, Hung: true, Printed: 5, Good: 1, Want: 3})
}

// P14.2: a tower is washed, whether its web is there or not; a wash that is refused changes nothing.
func TestWash(t *testing.T) {
	w := begin(t, twoTowers())
	expectDo(t, w, wash(0), 3, api.OK)
	if x := stateOf(t, w); x.Drive != press.Stopped || x.Units[0] != (press.Unit{Clean: true}) || x.Units[1] != (press.Unit{}) {
		t.Error(x)
	}
	do(t, w, hang, start, printing(2))
	refuse(t, w, api.ErrGuard, wash(0), wash(1), wash(2), wash(-1))
	do(t, w, stop)
	before := stateOf(t, w)
	for _, n := range []int{math.MinInt, -1, 2, math.MaxInt} {
		refuse(t, w, api.ErrArg, wash(n))
	}
	if x := stateOf(t, w); x.Drive != press.Stopped || !slices.Equal(x.Units, before.Units) || x.Units[1].Inked != 2 {
		t.Error(x)
	}
	expectDo(t, w, wash(1), 6, api.OK)
	if x := stateOf(t, w); x.Drive != press.Stopped || x.Units[1] != (press.Unit{Clean: true}) {
		t.Error(x)
	}
	expectDo(t, w, wash(1), 3, api.OK)
	expectDo(t, w, start, 4, api.OK)
}

// P14.2: a jammed tower is not washed, and its web stays where it is.
func TestJammedWash(t *testing.T) {
	s := twoTowers()
	s.Press.Jammed[0] = true
	w := begin(t, s)
	refuse(t, w, api.ErrGuard, wash(0))
	if x := stateOf(t, w); x.Drive != press.Stopped {
		t.Error(x)
	}
	expectDo(t, w, wash(1), 3, api.OK)
	do(t, w, hang)
	expectDo(t, w, start, 4, api.OK)
}

// printed returns the night of two towers, when all its editions are done: 4 copies of the edition for zone 1, and 7 of that for the zones 0 and 3, of which the first ones are waste.
func printed(t *testing.T, s works.Setup) *works.Works {
	t.Helper()
	w := begin(t, s)
	do(t, w, hang, start, printing(9), stop, next, hang, start, printing(9), stop)
	refuse(t, w, api.ErrOrder, mailing(), shutting(3, 0, 0))
	do(t, w, next)
	expectStatus(t, w, works.Status{At: 2, Edition: -1, Printed: 11})
	return w
}

// P14.2: the good copies are numbered from 0 on in the mailroom, in the order in which they were printed.
func TestMail(t *testing.T) {
	s := twoTowers()
	s.Line.Hoppers = []mail.Hopper{{Part: 5, Watch: 2}}
	s.Line.Zones[3] = []int{5}
	w := printed(t, s)
	refuse(t, w, api.ErrOrder, shutting(3, 0, 9000))
	// The copies 0 to 2 are for zone 1, 3 and 4 for zone 0, 5 to 8 for zone 3.
	refuse(t, w, api.ErrArg, mailing(mail.Fault{Copy: 4}), mailing(mail.Fault{Copy: 9}), mailing(mail.Fault{Copy: -1}), mailing(mail.Fault{Copy: 5, Hopper: 1}))
	refuse(t, w, api.ErrTwice, mailing(mail.Fault{Copy: 5}, mail.Fault{Copy: 5, Double: true}))
	refuse(t, w, api.ErrBundle, mailing(mail.Fault{Copy: 5}, mail.Fault{Copy: 8}))
	refuse(t, w, api.ErrMany, mailing(make([]mail.Fault, 5001)...))
	if b, e := w.Bundles(); b != nil || e != api.OK {
		t.Error(b, e)
	}
	expectStatus(t, w, works.Status{At: 2, Edition: -1, Printed: 11})
	expectDo(t, w, mailing(mail.Fault{Copy: 6}), 2, api.OK)
	b, e := w.Bundles()
	if e != api.OK || len(b) != 2 || b[0].Drop != 4 || !slices.Equal(b[0].Copies, []int{5, 7, 8}) || b[1].Drop != 5 || !slices.Equal(b[1].Copies, []int{0, 1, 2}) {
		t.Error(b, e)
	}
	refuse(t, w, api.ErrOrder, mailing(), mailing(mail.Fault{Copy: -1}))
	expectStatus(t, w, works.Status{At: 2, Edition: -1, Mailed: true, Printed: 11})
}

// P14.2: drops and the pack are looked at in the mailroom, the run of the line first.
func TestErrorsOfMail(t *testing.T) {
	for i, c := range []change{
		{func(s *works.Setup) { s.Drops = make([]mail.Drop, 101) }, api.ErrMany},
		{func(s *works.Setup) { s.Drops[0].Zone = 4 }, api.ErrRange},
		{func(s *works.Setup) { s.Drops[1].Id = 4 }, api.ErrTwice},
		{func(s *works.Setup) { s.Pack.Least = 0 }, api.ErrArg},
		{func(s *works.Setup) { s.Drops[1].Copies = 4 }, api.ErrBundle},
	} {
		s := twoTowers()
		c.to(&s)
		w := printed(t, s)
		if n, e := w.Do(mailing()); n != 0 || e != c.code {
			t.Error(i, n, e)
		}
		refuse(t, w, api.ErrMany, mailing(make([]mail.Fault, 5001)...))
		refuse(t, w, api.ErrOrder, shutting(3, 0, 9000))
	}
}

// P14.2: a mailroom without drops is done, too.
func TestNoDrops(t *testing.T) {
	s := twoTowers()
	s.Drops = nil
	w := printed(t, s)
	expectDo(t, w, mailing(), 0, api.OK)
	refuse(t, w, api.ErrOrder, mailing())
	// Nothing was delivered, and nothing is put in for it.
	expectDo(t, w, shutting(0, 2, 9000), 5, api.OK)
	expectEntries(t, w, entry(0, 1, 11, 0), entry(1, 2, 11, 0), entry(4, 5, 20000, 0), entry(5, 6, 11000, 0), entry(0, 1, 2, 0))
}

// P14.2: all copies that were printed are delivered, and nothing is put in for those thrown out.
func TestNothingThrownOut(t *testing.T) {
	s := example()
	s.Press.Warm = 0
	w := begin(t, s)
	do(t, w, hang, start, printing(9), stop, next, mailing())
	expectDo(t, w, shutting(8, 0, 14999), 5, api.OK)
	expectEntries(t, w, entry(0, 1, 5, 8), entry(1, 3, 5, 8), entry(4, 5, 20000, 8), entry(5, 6, 5000, 8), entry(5, 4, 1, 8))
}

// P14.2: reels are brought with their cores, and what is before the first copy is used, too.
func TestPaper(t *testing.T) {
	s := example()
	s.Paper.Webs[0] = reel.Web{Offset: 500, Reels: []reel.Reel{{Id: 1, Width: 700, Length: 4000, Core: 300}, {Id: 2, Width: 700, Length: 9000, Core: 200}, cutReel(3, 800)}}
	w := begin(t, s)
	do(t, w, hang, start)
	refuse(t, w, api.ErrReel, printing(13))
	do(t, w, printing(12), stop, next, mailing())
	expectDo(t, w, shutting(8, 0, 6300), 5, api.OK)
	expectEntries(t, w, entry(0, 1, 7, 8), entry(1, 2, 2, 8), entry(1, 3, 5, 8), entry(4, 5, 13800, 8), entry(5, 6, 7500, 8))
}

// P14.2: the errors of Shut; the books are begun anew after each of them.
func TestErrorsOfShut(t *testing.T) {
	w := printed(t, twoTowers())
	do(t, w, mailing())
	for _, day := range []int{math.MinInt, -1, 100001, math.MaxInt} {
		refuse(t, w, api.ErrRange, shutting(day, 0, 9000), shutting(day, 0))
	}
	refuse(t, w, api.ErrArg, shutting(3), shutting(3, 0), shutting(3, 0, 9000, 0), shutting(3, -1))
	refuse(t, w, api.ErrRange, shutting(3, -1, 9000), shutting(3, 0, -1), shutting(3, 0, 1000000009001), shutting(3, math.MaxInt, 9000))
	expectEntries(t, w)
	expectStatus(t, w, works.Status{At: 2, Edition: -1, Mailed: true, Printed: 11})
	expectDo(t, w, shutting(100000, 0, 9001), 6, api.OK)
	refuse(t, w, api.ErrOrder, shutting(100000, 0, 9001), shutting(-1), mailing())
	expectEntries(t, w, entry(0, 1, 11, 100000), entry(1, 2, 5, 100000), entry(1, 3, 6, 100000), entry(4, 5, 20000, 100000), entry(5, 6, 11000, 100000), entry(4, 5, 1, 100000))
}

// P14.3: editions and zones of copies, with waste at the beginning and at the end of editions.
func TestWhich(t *testing.T) {
	s := twoTowers()
	w := begin(t, s)
	do(t, w, hang, start, printing(4), tear(1), start, printing(9), stop, next, hang, start, printing(9))
	// Copy 0 is cold, 2 and 3 are lost, 4 is cold, 5 and 6 are good; 7 is cold, and 8 to 13 are good.
	for copy, zone := range []int{-1, 1, -1, -1, -1, 1, 1} {
		expectWhich(t, w, copy, 1, zone, api.OK)
	}
	for i, zone := range []int{-1, 0, 0, 3, 3, 3, 3} {
		expectWhich(t, w, 7+i, 0, zone, api.OK)
	}
	for _, copy := range []int{math.MinInt, -1, 14, math.MaxInt} {
		expectWhich(t, w, copy, 0, 0, api.ErrRange)
	}
	do(t, w, tear(1))
	expectWhich(t, w, 11, 0, 3, api.OK)
	expectWhich(t, w, 12, 0, -1, api.OK)
	expectWhich(t, w, 13, 0, -1, api.OK)
	do(t, w, start, printing(6), stop, next)
	for i, zone := range []int{-1, 0, 0, 3, 3, -1, -1, -1, 3, 3} {
		expectWhich(t, w, 7+i, 0, zone, api.OK)
	}
}

package works_test

import (
	"math/rand"
	"slices"
	"testing"

	"foldhouse/api"
	"foldhouse/books"
	"foldhouse/count"
	"foldhouse/fold"
	"foldhouse/impose"
	"foldhouse/mail"
	"foldhouse/plate"
	"foldhouse/press"
	"foldhouse/works"
)

// P14.2, P14.3, P14.4: nights under any orders are as the words of the chapter say, and whole at any time.
func TestAnyNights(t *testing.T) {
	rnd := rand.New(rand.NewSource(1401))
	right, shut := 0, 0
	for range 500 {
		s := anySetup(rnd)
		w, m := begin(t, s), newModel(s)
		for range 30 + rnd.Intn(60) {
			o := anyOrder(rnd, m)
			before := stateOf(t, w)
			items, _ := w.Items()
			n, e := m.do(o)
			expectDo(t, w, o, n, e)
			m.expect(t, w)
			m.expectWhole(t, w)
			if now, _ := w.Items(); !slices.Equal(now, items) && (before.Drive != press.Stopped || o.Kind != works.Hang) {
				t.Fatal("plates are changed", o, before)
			}
			if e == api.OK {
				right++
			}
			if m.shut {
				shut++
				break
			}
		}
		m.expectCopies(t, w)
	}
	if right < 8000 || shut < 100 {
		t.Error("not enough", right, shut)
	}
}

// expectWhole checks what follows at any time: the press is safe, copies add up, and a press that runs has the plates of its edition.
func (m *model) expectWhole(t *testing.T, w *works.Works) {
	t.Helper()
	s := stateOf(t, w)
	if safe, e := press.Safe(m.Press, s); !safe || e != api.OK {
		t.Fatal("not safe", s, e)
	}
	marks, _ := w.Marks()
	marked := 0
	for _, x := range marks {
		marked += x.To - x.From + 1
	}
	x := statusOf(t, w)
	good := x.Good
	for place := range x.At {
		good += m.edition(place).Copies
	}
	if x.Printed != marked+good {
		t.Fatal("copies do not add up", x, marks)
	}
	if s.Drive == press.Running {
		m.expectPlates(t, w)
	}
}

// expectPlates checks that the plates that hang print the edition.
func (m *model) expectPlates(t *testing.T, w *works.Works) {
	t.Helper()
	run, _ := impose.Build(m.Job, m.plan)
	for _, web := range run.Webs {
		clear(web.Plates)
	}
	items, _ := w.Items()
	for _, x := range items {
		if x.State == plate.Hung {
			web := run.Webs[x.Spot.Web]
			web.Plates[(x.Spot.Side*web.Rows+x.Spot.Row)*web.Cols+x.Spot.Col] = fold.Plate{Page: x.Page}
		}
	}
	if is, e := fold.Right(run, m.product(m.at)); !is || e != api.OK {
		t.Fatal("wrong plates", items, e)
	}
}

// P14.3: a copy goes on without its night, and the night without its copy.
func TestAnyCopies(t *testing.T) {
	rnd := rand.New(rand.NewSource(1402))
	for range 200 {
		s := anySetup(rnd)
		w, m, other := begin(t, s), newModel(s), newModel(s)
		for range rnd.Intn(50) {
			o := anyOrder(rnd, m)
			m.do(o)
			other.do(o)
			w.Do(o)
		}
		c, e := w.Copy()
		if e != api.OK {
			t.Fatal(e)
		}
		for range 30 {
			o := anyOrder(rnd, m)
			n, e := m.do(o)
			expectDo(t, w, o, n, e)
			other.expect(t, c)
			if rnd.Intn(2) == 0 {
				o := anyOrder(rnd, other)
				n, e := other.do(o)
				expectDo(t, c, o, n, e)
			}
			m.expect(t, w)
		}
		m.expectCopies(t, w)
		other.expectCopies(t, c)
	}
}

// good returns a setup that can be brought to its end: there is paper, no tower is Jammed, and Dirt is greater than Warm.
func good(rnd *rand.Rand) works.Setup {
	s := anySetup(rnd)
	clear(s.Press.Jammed)
	s.Press.Dirt = s.Press.Warm + 1 + rnd.Intn(6)
	for _, web := range s.Paper.Webs {
		for i := range web.Reels {
			web.Reels[i].Length += 200000
		}
	}
	return s
}

// finish brings all editions to their end.
func finish(t *testing.T, s works.Setup, w *works.Works) {
	t.Helper()
	for x := statusOf(t, w); x.Edition >= 0; x = statusOf(t, w) {
		do(t, w, stop)
		switch {
		case !x.Hung:
			do(t, w, hang)
		case x.Good == x.Want:
			do(t, w, next)
		default:
			for tower := range s.Press.Jammed {
				do(t, w, wash(tower))
			}
			do(t, w, start, printing(s.Press.Dirt))
		}
	}
}

// P14.4: a night goes on from wherever it is, and at its end all that was printed is where it belongs.
func TestAnyEnds(t *testing.T) {
	rnd := rand.New(rand.NewSource(1403))
	for range 400 {
		s := good(rnd)
		w, m := begin(t, s), newModel(s)
		for range rnd.Intn(40) {
			o := anyOrder(rnd, m)
			m.do(o)
			w.Do(o)
		}
		finish(t, s, w)
		expectZones(t, s, w)
		if !statusOf(t, w).Mailed {
			// A drop may lack copies that the mailroom throws out, but not without faults.
			do(t, w, mailing())
		}
		expectBundles(t, s, w)
		if !statusOf(t, w).Shut {
			do(t, w, shutting(rnd.Intn(9), rnd.Intn(2), rnd.Intn(99)))
			expectBooks(t, s, w)
		}
	}
}

// expectZones checks that each zone has as many good copies, of its edition, as it has Copies.
func expectZones(t *testing.T, s works.Setup, w *works.Works) {
	t.Helper()
	_, m := begin(t, s), newModel(s)
	got := make([]int, len(s.Title.Zones))
	for copy := range statusOf(t, w).Printed {
		edition, zone, e := w.Which(copy)
		if e != api.OK {
			t.Fatal(copy, e)
		}
		if zone < 0 {
			continue
		}
		got[zone]++
		if place := slices.Index(m.order, edition); !slices.Contains(m.edition(place).Zones, zone) {
			t.Fatal(copy, edition, zone)
		}
	}
	for zone, x := range s.Title.Zones {
		if got[zone] != x.Copies {
			t.Fatal(zone, got)
		}
	}
}

// expectBundles checks that the drops have their copies, each copy once at most.
func expectBundles(t *testing.T, s works.Setup, w *works.Works) {
	t.Helper()
	bundles, _ := w.Bundles()
	given, met := map[int]int{}, map[int]bool{}
	for _, b := range bundles {
		given[b.Drop] += len(b.Copies)
		for _, copy := range b.Copies {
			if met[copy] {
				t.Fatal("twice", copy)
			}
			met[copy] = true
		}
	}
	for _, d := range s.Drops {
		if given[d.Id] != d.Copies {
			t.Fatal(d, bundles)
		}
	}
}

// expectBooks checks that the books audit, and that what came in is somewhere.
func expectBooks(t *testing.T, s works.Setup, w *works.Works) {
	t.Helper()
	entries, _ := w.Entries()
	if n, e := books.Audit(s.Key, accounts(), entries); n != len(entries) || e != api.OK {
		t.Fatal(n, e)
	}
	if n, e := books.Audit(s.Key+1, accounts(), entries); n != 0 || e != api.ErrFalse {
		t.Fatal(n, e)
	}
	delivered := 0
	bundles, _ := w.Bundles()
	for _, b := range bundles {
		delivered += len(b.Copies)
	}
	var to [7]int
	for _, x := range entries {
		to[x.Entry.To] += x.Entry.Amount
	}
	if printed := statusOf(t, w).Printed; to[2]+to[3] != printed || to[3] != delivered {
		t.Fatal(entries)
	}
}

// P14.4: after Shut the stocks are what was counted.
func TestStocks(t *testing.T) {
	rnd := rand.New(rand.NewSource(1404))
	for range 100 {
		s := good(rnd)
		w := begin(t, s)
		finish(t, s, w)
		counted := []int{rnd.Intn(3), rnd.Intn(100000)}
		do(t, w, mailing(), shutting(5, counted...))
		entries, _ := w.Entries()
		var balance [7]int
		for _, x := range entries {
			balance[x.Entry.From] -= x.Entry.Amount
			balance[x.Entry.To] += x.Entry.Amount
		}
		if balance[1] != counted[0] || balance[5] != counted[1] {
			t.Fatal(entries, counted)
		}
	}
}

// P14.4: copies that are good are in bundles, thrown out in the mailroom, or left over.
func TestGoodCopies(t *testing.T) {
	rnd := rand.New(rand.NewSource(1405))
	thrown := 0
	for range 200 {
		s := good(rnd)
		s.Drops = s.Drops[:1]
		s.Drops[0].Copies /= 2
		w := begin(t, s)
		finish(t, s, w)
		var zones []int
		for copy := range statusOf(t, w).Printed {
			if _, zone, _ := w.Which(copy); zone >= 0 {
				zones = append(zones, zone)
			}
		}
		faults := anyFaults(rnd)
		flow, e := mail.Run(s.Line, zones, faults)
		if e != api.OK {
			refuse(t, w, e, mailing(faults...))
			continue
		}
		if _, e := w.Do(mailing(faults...)); e != api.OK {
			continue
		}
		bundles, _ := w.Bundles()
		for _, copy := range flow.Thrown {
			thrown++
			if _, _, e := mail.Trace(bundles, copy); e != api.ErrNone {
				t.Fatal(copy, bundles)
			}
		}
		for _, b := range bundles {
			for _, copy := range b.Copies {
				if copy >= len(zones) || zones[copy] != s.Drops[0].Zone {
					t.Fatal(copy, bundles)
				}
			}
		}
	}
	if thrown == 0 {
		t.Error("nothing is thrown out")
	}
}

// P14.3: more marks than a book of layer 8 can have.
func TestManyMarks(t *testing.T) {
	s := example()
	s.Title.Zones[0].Copies = 2100
	s.Press.Warm = 1
	s.Paper.Cut = 300
	s.Paper.Webs[0].Reels[0].Length = 300 * 4200
	w := begin(t, s)
	do(t, w, hang)
	var want []count.Mark
	for i := range 2100 {
		do(t, w, stop)
		if i%50 == 0 {
			do(t, w, wash(0))
		}
		do(t, w, start, printing(2))
		want = append(want, mark(1, 2*i, 2*i))
	}
	expectMarks(t, w, want...)
	expectWhich(t, w, 4198, 0, -1, api.OK)
	expectWhich(t, w, 4199, 0, 0, api.OK)
	do(t, w, stop, next, mailing())
}

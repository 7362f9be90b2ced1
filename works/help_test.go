package works_test

import (
	"slices"
	"testing"

	"foldhouse/api"
	"foldhouse/books"
	"foldhouse/count"
	"foldhouse/edition"
	"foldhouse/fold"
	"foldhouse/impose"
	"foldhouse/mail"
	"foldhouse/plate"
	"foldhouse/press"
	"foldhouse/reel"
	"foldhouse/works"
)

// Orders that need nothing but their Kind.
var (
	hang  = works.Order{Kind: works.Hang}
	start = works.Order{Kind: works.Start}
	stop  = works.Order{Kind: works.Stop}
	next  = works.Order{Kind: works.Next}
)

func printing(n int) works.Order { return works.Order{Kind: works.Print, N: n} }

func tear(tower int) works.Order { return works.Order{Kind: works.Break, N: tower} }

func wash(tower int) works.Order { return works.Order{Kind: works.Wash, N: tower} }

func mailing(faults ...mail.Fault) works.Order { return works.Order{Kind: works.Mail, Faults: faults} }

func shutting(day int, counted ...int) works.Order {
	return works.Order{Kind: works.Shut, N: day, Counted: counted}
}

// tower returns a tower without colour.
func tower(cols int) impose.Tower {
	return impose.Tower{Cols: cols, Colour: [2][]bool{make([]bool, cols), make([]bool, cols)}}
}

// zone returns a zone that is due at the end of the night.
func zone(copies int, variants ...int) edition.Zone {
	return edition.Zone{Copies: copies, Due: edition.MaxTime, Variants: variants}
}

func cutReel(id, length int) reel.Reel { return reel.Reel{Id: id, Width: 700, Length: length} }

// example returns the setup of example 1 of the chapter.
func example() works.Setup {
	return works.Setup{
		Title: edition.Title{Colours: []int{1, 1, 1, 1}, Zones: []edition.Zone{zone(5, 0, 0, 0, 0)}, Rate: 60},
		Job:   impose.Job{Towers: []impose.Tower{tower(2)}, Rows: 1, Sections: [][]impose.Leaf{make([]impose.Leaf, 4)}},
		Press: press.Press{Jammed: []bool{false}, Warm: 2, Tail: 1, Dirt: 100},
		Paper: reel.Press{Cut: 1000, Webs: []reel.Web{{Reels: []reel.Reel{cutReel(1, 20000)}}}},
		Line:  mail.Line{Hoppers: []mail.Hopper{{}}, Batch: 10, Zones: [][]int{nil}},
		Drops: []mail.Drop{{Copies: 5}},
		Pack:  mail.Pack{Size: 10, Least: 1},
		Key:   7,
	}
}

// twoTowers returns a setup whose plan has the second one of two towers, with 8 pages, two rows, and two editions of which the second one is printed first: it has page 2 of another variant, and an early Due. The edition that is printed first has 3 copies for zone 1, the other one 2 for zone 0 and 4 for zone 3; zone 2 has no copies.
func twoTowers() works.Setup {
	s := example()
	s.Title = edition.Title{Colours: make([]int, 8), Rate: 60, Zones: []edition.Zone{
		zone(2, 0, 0, 0, 0, 0, 0, 0, 0), zone(3, 0, 1, 0, 0, 0, 0, 0, 0), zone(0, 2, 2, 2, 2, 2, 2, 2, 2), zone(4, 0, 0, 0, 0, 0, 0, 0, 0),
	}}
	for i := range s.Title.Colours {
		s.Title.Colours[i] = 1
	}
	s.Title.Zones[1].Due = 3
	s.Job = impose.Job{Towers: []impose.Tower{tower(4), tower(4)}, Rows: 2, Sections: [][]impose.Leaf{make([]impose.Leaf, 8)}}
	s.Press = press.Press{Jammed: []bool{false, false}, Warm: 1, Tail: 2, Dirt: 50}
	s.Line.Zones = make([][]int, 4)
	s.Drops = []mail.Drop{{Id: 4, Zone: 3, Copies: 3}, {Id: 5, Zone: 1, Copies: 3}}
	return s
}

// begin returns the night of a setup, and fails if there is an error.
func begin(t *testing.T, s works.Setup) *works.Works {
	t.Helper()
	expectCheck(t, s, api.OK)
	w, e := works.New(s)
	if w == nil || e != api.OK {
		t.Fatal(e)
	}
	return w
}

// expectCheck checks the error of a setup.
func expectCheck(t *testing.T, s works.Setup, want api.Errno) {
	t.Helper()
	if e := works.Check(s); e != want {
		t.Error(e, want)
	}
	if w, e := works.New(s); e != want || (w == nil) != (want != api.OK) {
		t.Error(w, e, want)
	}
}

func expectDo(t *testing.T, w *works.Works, o works.Order, want int, code api.Errno) {
	t.Helper()
	if n, e := w.Do(o); n != want || e != code {
		t.Fatal(o, n, e, want, code)
	}
}

// refuse checks that orders have an error.
func refuse(t *testing.T, w *works.Works, code api.Errno, l ...works.Order) {
	t.Helper()
	for _, o := range l {
		expectDo(t, w, o, 0, code)
	}
}

// do carries out orders that have no error.
func do(t *testing.T, w *works.Works, l ...works.Order) {
	t.Helper()
	for _, o := range l {
		if n, e := w.Do(o); e != api.OK {
			t.Fatal(o, n, e)
		}
	}
}

func expectStatus(t *testing.T, w *works.Works, want works.Status) {
	t.Helper()
	if s, e := w.Status(); s != want || e != api.OK {
		t.Fatal(s, e, want)
	}
}

func expectMarks(t *testing.T, w *works.Works, want ...count.Mark) {
	t.Helper()
	if l, e := w.Marks(); !slices.Equal(l, want) || e != api.OK {
		t.Fatal(l, e, want)
	}
}

func mark(cause, from, to int) count.Mark { return count.Mark{Cause: cause, From: from, To: to} }

func expectItems(t *testing.T, w *works.Works, want ...plate.Item) {
	t.Helper()
	if l, e := w.Items(); !slices.Equal(l, want) || e != api.OK {
		t.Fatal(l, e, want)
	}
}

func hung(page, side, col int) plate.Item {
	return plate.Item{Page: page, State: plate.Hung, Spot: fold.Spot{Side: side, Col: col}}
}

func expectWhich(t *testing.T, w *works.Works, copy, edition, zone int, code api.Errno) {
	t.Helper()
	if a, b, e := w.Which(copy); a != edition || b != zone || e != code {
		t.Fatal(copy, a, b, e, edition, zone, code)
	}
}

// expectEntries checks the entries of a night, not their signs.
func expectEntries(t *testing.T, w *works.Works, want ...books.Entry) {
	t.Helper()
	signed, e := w.Entries()
	var l []books.Entry
	for _, s := range signed {
		l = append(l, s.Entry)
	}
	if !slices.Equal(l, want) || e != api.OK {
		t.Fatal(l, e, want)
	}
}

func entry(from, to, amount, day int) books.Entry {
	return books.Entry{From: from, To: to, Amount: amount, Day: day}
}

// stateOf returns the state of the press.
func stateOf(t *testing.T, w *works.Works) press.State {
	t.Helper()
	s, e := w.State()
	if e != api.OK {
		t.Fatal(e)
	}
	return s
}

// statusOf returns where a night is.
func statusOf(t *testing.T, w *works.Works) works.Status {
	t.Helper()
	s, e := w.Status()
	if e != api.OK {
		t.Fatal(e)
	}
	return s
}

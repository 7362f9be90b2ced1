package works_test

import (
	"math"
	"testing"

	"foldhouse/api"
	"foldhouse/edition"
	"foldhouse/impose"
	"foldhouse/mail"
	"foldhouse/reel"
	"foldhouse/works"
)

// change is a change of a setup, and the error that it has.
type change struct {
	to   func(s *works.Setup)
	code api.Errno
}

// large returns a setup of 14 pages, whose first two have the greatest variant that there can be.
func large() works.Setup {
	s := example()
	s.Title.Colours = make([]int, 14)
	for i := range s.Title.Colours {
		s.Title.Colours[i] = 1
	}
	s.Title.Zones = []edition.Zone{zone(3, make([]int, 14)...), zone(2, append([]int{9, 9}, make([]int, 12)...)...)}
	s.Job.Towers = []impose.Tower{tower(4), tower(4)}
	s.Job.Sections = [][]impose.Leaf{make([]impose.Leaf, 8), make([]impose.Leaf, 6)}
	s.Press.Jammed = make([]bool, 2)
	s.Paper.Webs = []reel.Web{{Reels: []reel.Reel{cutReel(1, 20000)}}, {Reels: []reel.Reel{cutReel(2, 20000)}}}
	s.Line.Zones = make([][]int, 2)
	s.Drops = nil
	return s
}

// P14.1: each error alone.
func TestErrorsOfSetups(t *testing.T) {
	for i, c := range []change{
		{func(s *works.Setup) {}, api.OK},
		{func(s *works.Setup) { s.Title.Colours = nil }, api.ErrMany},
		{func(s *works.Setup) { s.Title.Rate = 0 }, api.ErrRange},
		{func(s *works.Setup) { s.Title.Zones[1].Variants = nil }, api.ErrEdition},
		{func(s *works.Setup) { s.Title.Zones[0].Copies, s.Title.Zones[1].Copies = 0, 0 }, api.ErrNone},
		{func(s *works.Setup) { s.Job.Towers = nil }, api.ErrMany},
		{func(s *works.Setup) { s.Job.Rows = 3 }, api.ErrRange},
		{func(s *works.Setup) { s.Job.Collected = true }, api.ErrImpose},
		{func(s *works.Setup) { s.Job.Panoramas = []impose.Spread{{Index: 7}} }, api.ErrPage},
		{func(s *works.Setup) { s.Press.Jammed = nil }, api.ErrMany},
		{func(s *works.Setup) { s.Press.Dirt = 10001 }, api.ErrPress},
		{func(s *works.Setup) { s.Paper.Webs = nil }, api.ErrMany},
		{func(s *works.Setup) { s.Paper.Webs[1].Reels[0].Id = 1 }, api.ErrTwice},
		{func(s *works.Setup) { s.Line.Hoppers = nil }, api.ErrMany},
		{func(s *works.Setup) { s.Line.Zones[1] = []int{9} }, api.ErrArg},
		{func(s *works.Setup) { s.Job.Rows, s.Job.Collected = 2, true }, api.ErrImpose},
		{func(s *works.Setup) { s.Job.Sections[1] = make([]impose.Leaf, 4) }, api.ErrPage},
		{func(s *works.Setup) { s.Job.Sections[0] = make([]impose.Leaf, 10) }, api.ErrPage},
		{func(s *works.Setup) { s.Job.Sections = s.Job.Sections[:1] }, api.ErrPage},
		{func(s *works.Setup) { s.Title.Colours[13] = 2 }, api.ErrColour},
		{func(s *works.Setup) { s.Job.Sections[1][0].Colour = true }, api.ErrColour},
		{func(s *works.Setup) { s.Title.Colours[7], s.Job.Sections[1][0].Colour = 4, true }, api.ErrColour},
		{func(s *works.Setup) { s.Title.Zones[1].Variants[2] = 9 }, api.ErrLarge},
		{func(s *works.Setup) { s.Title.Zones[0].Variants[13] = 9 }, api.ErrLarge},
		{func(s *works.Setup) { s.Title.Zones[0].Variants[13] = 8 }, api.OK},
		{func(s *works.Setup) { s.Press.Jammed = make([]bool, 1) }, api.ErrPress},
		{func(s *works.Setup) { s.Press.Jammed = make([]bool, 3) }, api.ErrPress},
		{func(s *works.Setup) { s.Line.Zones = make([][]int, 1) }, api.ErrArg},
		{func(s *works.Setup) { s.Line.Zones = make([][]int, 3) }, api.ErrArg},
		{func(s *works.Setup) { s.Title.Zones[1].Due = 1 }, api.ErrTime},
		{func(s *works.Setup) { s.Title.Start = edition.MaxTime }, api.ErrTime},
		{func(s *works.Setup) { s.Job.Sections[0][7].Late = true }, api.ErrNone},
		{func(s *works.Setup) { s.Job.Towers[1] = tower(2) }, api.ErrNone},
		{func(s *works.Setup) { s.Title.Colours[7], s.Job.Sections[0][7].Colour = 4, true }, api.ErrNone},
		{func(s *works.Setup) { s.Paper.Webs = s.Paper.Webs[:1] }, api.ErrReel},
		{func(s *works.Setup) { s.Paper.Webs = append(s.Paper.Webs, reel.Web{}) }, api.ErrReel},
		// Drops and Pack are looked at in the mailroom, and paper that does not suffice when it is printed on.
		{func(s *works.Setup) { s.Drops = []mail.Drop{{Id: -1, Zone: 9, Copies: -1}} }, api.OK},
		{func(s *works.Setup) { s.Pack.Size = math.MinInt }, api.OK},
		{func(s *works.Setup) { s.Paper.Webs[0].Reels = nil }, api.OK},
		{func(s *works.Setup) { s.Press.Jammed[0], s.Press.Dirt = true, 0 }, api.OK},
	} {
		s := large()
		c.to(&s)
		if e := works.Check(s); e != c.code {
			t.Error(i, e, c.code)
		}
		if w, e := works.New(s); e != c.code || (w != nil) != (e == api.OK) {
			t.Error(i, w, e)
		}
	}
}

// P14.1, R1: the errors of a setup in their order; each setup has all those that come later, too.
func TestOrderOfErrorsOfSetups(t *testing.T) {
	changes := []change{
		{func(s *works.Setup) { s.Title.Pairs = []int{13} }, api.ErrPage},
		{func(s *works.Setup) { s.Job.Towers[0].Cols = 5 }, api.ErrRange},
		{func(s *works.Setup) { s.Press.Tail = -1 }, api.ErrPress},
		{func(s *works.Setup) { s.Paper.Webs[1].Reels[0].Width = 0 }, api.ErrReel},
		{func(s *works.Setup) { s.Line.Batch = 0 }, api.ErrRange},
		{func(s *works.Setup) { s.Job.Rows, s.Job.Collected = 2, true }, api.ErrImpose},
		{func(s *works.Setup) { s.Job.Sections = [][]impose.Leaf{make([]impose.Leaf, 8), make([]impose.Leaf, 8)} }, api.ErrPage},
		{func(s *works.Setup) { s.Title.Colours[13] = 2 }, api.ErrColour},
		{func(s *works.Setup) { s.Title.Zones[1].Variants[13] = 9 }, api.ErrLarge},
		{func(s *works.Setup) { s.Press.Jammed = make([]bool, 3) }, api.ErrPress},
		{func(s *works.Setup) { s.Line.Zones = make([][]int, 3) }, api.ErrArg},
		{func(s *works.Setup) { s.Title.Zones[1].Due = 1 }, api.ErrTime},
		{func(s *works.Setup) { s.Job.Towers[0] = tower(2) }, api.ErrNone},
		{func(s *works.Setup) { s.Paper.Webs = append(s.Paper.Webs, reel.Web{}) }, api.ErrReel},
	}
	for first := range changes {
		s := large()
		// The later changes come first, so that those whose error is awaited are made on them.
		for i := len(changes) - 1; i >= first; i-- {
			changes[i].to(&s)
		}
		if e := works.Check(s); e != changes[first].code {
			t.Error(first, e)
		}
		if w, e := works.New(s); w != nil || e != changes[first].code {
			t.Error(first, w, e)
		}
	}
}

// P14.1: what the numbers of plates are bounded by is the variants of all zones, also of those without copies.
func TestGreatestPlate(t *testing.T) {
	s := large()
	expectCheck(t, s, api.OK)
	s.Title.Zones = append(s.Title.Zones, zone(0, 0, 0, 9, 0, 0, 0, 0, 0, 0, 0, 0, 0, 0, 0))
	s.Line.Zones = make([][]int, 3)
	expectCheck(t, s, api.ErrLarge)
	s.Title.Zones[2].Variants[2] = 8
	expectCheck(t, s, api.OK)
}

// P14.1, P14.3: the beginning of a night, with its order and its plan.
func TestBeginning(t *testing.T) {
	w := begin(t, twoTowers())
	expectStatus(t, w, works.Status{Edition: 1, Want: 3})
	order, plan, e := w.Plan()
	if e != api.OK || len(order) != 2 || order[0] != 1 || order[1] != 0 {
		t.Error(order, e)
	}
	if len(plan.Cols) != 2 || plan.Cols[0] != 0 || plan.Cols[1] != 4 || len(plan.Stacks) != 1 || len(plan.Stacks[0]) != 2 {
		t.Error(plan)
	}
	if s := stateOf(t, w); s.Drive != 0 || s.Folder || len(s.Units) != 2 || s.Fresh != 0 {
		t.Error(s)
	}
	expectItems(t, w)
	expectMarks(t, w)
	expectEntries(t, w)
	if b, e := w.Bundles(); b != nil || e != api.OK {
		t.Error(b, e)
	}
	for _, copy := range []int{math.MinInt, -1, 0, 1, math.MaxInt} {
		expectWhich(t, w, copy, 0, 0, api.ErrRange)
	}
}

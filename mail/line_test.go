package mail_test

import (
	"math"
	"math/rand"
	"slices"
	"testing"

	"foldhouse/api"
	"foldhouse/mail"
)

// expectLine checks that a changed line of the chapter's example has an error, in all functions that look at it.
func expectLine(t *testing.T, want api.Errno, change func(l *mail.Line)) {
	t.Helper()
	l := example()
	change(&l)
	if e := mail.Check(l); e != want {
		t.Error(l, e, want)
	}
	h, e := mail.Feeds(l, 0)
	if e != want {
		t.Error(l, e, want)
	}
	f, e1 := mail.Run(l, []int{0}, nil)
	c, e2 := mail.Counts(l, []int{0}, nil)
	b, e3 := mail.Bundles(l, mail.Flow{}, nil, mail.Pack{Size: 1, Least: 1})
	if e1 != want || e2 != want || e3 != want {
		t.Error(l, e1, e2, e3, want)
	}
	if want != api.OK && (h != nil || !isNoFlow(f) || c != nil || b != nil) {
		t.Error(l, h, f, c, b)
	}
}

// P9.1: how many hoppers and zones a line has.
func TestCheckNumbers(t *testing.T) {
	for n, want := range map[int]api.Errno{0: api.ErrMany, 1: api.OK, 8: api.OK, 9: api.ErrMany, 100: api.ErrMany} {
		expectLine(t, want, func(l *mail.Line) {
			l.Hoppers, l.Zones = make([]mail.Hopper, n), [][]int{nil}
		})
	}
	for n, want := range map[int]api.Errno{0: api.ErrMany, 1: api.OK, 12: api.OK, 13: api.ErrMany, 100: api.ErrMany} {
		expectLine(t, want, func(l *mail.Line) { l.Zones = make([][]int, n) })
	}
}

// P9.1: how many copies a batch has.
func TestCheckBatch(t *testing.T) {
	for n, want := range map[int]api.Errno{math.MinInt: api.ErrRange, -1: api.ErrRange, 0: api.ErrRange, 1: api.OK, 1000: api.OK, 1001: api.ErrRange, math.MaxInt: api.ErrRange} {
		expectLine(t, want, func(l *mail.Line) { l.Batch = n })
	}
}

// P9.1: the hoppers, the parts of the repair, and those of the zones.
func TestCheckParts(t *testing.T) {
	for n, want := range map[int]api.Errno{math.MinInt: api.ErrArg, -1: api.ErrArg, 0: api.OK, 15: api.OK, 16: api.ErrArg, math.MaxInt: api.ErrArg} {
		expectLine(t, want, func(l *mail.Line) { l.Hoppers = append(l.Hoppers, mail.Hopper{Part: n}) })
		expectLine(t, want, func(l *mail.Line) { l.Repair = []int{n} })
		expectLine(t, want, func(l *mail.Line) {
			l.Hoppers = append(l.Hoppers, mail.Hopper{}, mail.Hopper{Part: 15})
			l.Zones = append(l.Zones, []int{n})
		})
	}
	for n, want := range map[int]api.Errno{math.MinInt: api.ErrArg, -1: api.ErrArg, 0: api.OK, 1: api.OK, 2: api.OK, 3: api.ErrArg, math.MaxInt: api.ErrArg} {
		expectLine(t, want, func(l *mail.Line) { l.Hoppers[1].Watch = n })
	}
	for _, x := range []struct {
		parts        []int
		repair, zone api.Errno
	}{
		{nil, api.OK, api.OK},
		{[]int{}, api.OK, api.OK},
		{[]int{3}, api.OK, api.OK},
		{[]int{5}, api.OK, api.OK},
		{[]int{3, 5}, api.OK, api.OK},
		{[]int{3, 3}, api.ErrArg, api.ErrArg},
		{[]int{5, 3}, api.ErrArg, api.ErrArg},
		{[]int{3, 5, 5}, api.ErrArg, api.ErrArg},
		{[]int{4}, api.OK, api.ErrArg},
		{[]int{3, 4, 5}, api.OK, api.ErrArg},
		{[]int{0, 1, 2, 14, 15}, api.OK, api.ErrArg},
		{[]int{15, 16}, api.ErrArg, api.ErrArg},
	} {
		expectLine(t, x.repair, func(l *mail.Line) { l.Repair = x.parts })
		expectLine(t, x.zone, func(l *mail.Line) { l.Zones = append(l.Zones, x.parts) })
		expectLine(t, x.zone, func(l *mail.Line) { l.Zones[0] = x.parts })
	}
}

// P9.1: which error of a line comes first.
func TestCheckOrder(t *testing.T) {
	many := func(l *mail.Line) { l.Zones = nil }
	batch := func(l *mail.Line) { l.Batch = 0 }
	hopper := func(l *mail.Line) { l.Hoppers[0].Part = 16 }
	for want, changes := range map[api.Errno][]func(l *mail.Line){
		api.ErrMany:  {hopper, batch, many},
		api.ErrRange: {hopper, batch},
		api.ErrArg:   {hopper},
	} {
		expectLine(t, want, func(l *mail.Line) {
			for _, change := range changes {
				change(l)
			}
		})
	}
}

// P9.1: the hoppers of a zone, of which the first one that feeds a part counts.
func TestFeeds(t *testing.T) {
	l := mail.Line{
		Hoppers: []mail.Hopper{{Part: 9}, {Part: 2}, {Part: 9, Watch: 2}, {Part: 15}, {Part: 0}, {Part: 2}},
		Batch:   1,
		Zones:   [][]int{{0, 2, 9, 15}, nil, {9}, {2, 15}, {}},
	}
	for zone, want := range [][]int{{4, 1, 0, 3}, nil, {0}, {1, 3}, nil} {
		if h, e := mail.Feeds(l, zone); e != api.OK || !slices.Equal(h, want) {
			t.Error(zone, h, e)
		}
	}
	for _, zone := range []int{math.MinInt, -1, 5, 12, math.MaxInt} {
		if h, e := mail.Feeds(l, zone); e != api.ErrArg || h != nil {
			t.Error(zone, h, e)
		}
	}
	l.Batch = 0
	if h, e := mail.Feeds(l, 5); e != api.ErrRange || h != nil {
		t.Error(h, e)
	}
}

// P9.1: any lines.
func TestAnyLine(t *testing.T) {
	rnd := rand.New(rand.NewSource(91))
	for range 2000 {
		l := anyLine(rnd)
		if e := mail.Check(l); e != api.OK {
			t.Fatal(l, e)
		}
		for zone, parts := range l.Zones {
			h, e := mail.Feeds(l, zone)
			if e != api.OK || len(h) != len(parts) {
				t.Fatal(l, h, e)
			}
			for i, part := range parts {
				if h[i] != hopperOf(l, part) {
					t.Fatal(l, h)
				}
			}
		}
	}
}

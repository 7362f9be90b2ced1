package reel_test

import (
	"math"
	"slices"
	"testing"

	"foldhouse/api"
	"foldhouse/reel"
)

// pressCase is a press with an error, or without one.
type pressCase struct {
	name string
	p    reel.Press
	want api.Errno
}

// changed returns a case: the press of example 2, changed.
func changed(name string, want api.Errno, change func(p *reel.Press)) pressCase {
	p := second()
	change(&p)
	return pressCase{name, p, want}
}

// around returns cases for a number that may be from lo to hi.
func around(name string, want api.Errno, lo, hi int, set func(p *reel.Press, n int)) []pressCase {
	var l []pressCase
	for _, n := range []int{lo, lo + 1, (lo + hi) / 2, hi - 1, hi} {
		l = append(l, changed(name, api.OK, func(p *reel.Press) { set(p, n) }))
	}
	for _, n := range []int{math.MinInt, lo - 1, hi + 1, math.MaxInt} {
		l = append(l, changed(name, want, func(p *reel.Press) { set(p, n) }))
	}
	return l
}

func manyCases() []pressCase {
	more := huge(1)
	more.Webs[0].Reels = append(more.Webs[0].Reels, reel.Reel{Id: 20, Width: 1})
	seven := huge(6)
	seven.Webs = append(seven.Webs, reel.Web{})
	return []pressCase{
		{"zero press", reel.Press{}, api.ErrMany},
		{"no webs", reel.Press{Cut: 500, Webs: []reel.Web{}}, api.ErrMany},
		{"example 1", example(), api.OK},
		{"example 2", second(), api.OK},
		{"a web without reels", reel.Press{Cut: 500, Webs: []reel.Web{{}}}, api.OK},
		{"six webs with 20 reels", huge(6), api.OK},
		{"seven webs", seven, api.ErrMany},
		{"21 reels", more, api.ErrMany},
		changed("21 reels of a later web", api.ErrMany, func(p *reel.Press) { p.Webs[1].Reels = make([]reel.Reel, 21) }),
	}
}

func rangeCases() []pressCase {
	last := func(p *reel.Press) *reel.Reel { return &p.Webs[1].Reels[1] }
	return slices.Concat(
		around("Cut", api.ErrRange, 300, 1500, func(p *reel.Press, n int) { p.Cut = n }),
		around("Margin", api.ErrRange, 0, 20, func(p *reel.Press, n int) { p.Margin = n }),
		around("Offset", api.ErrRange, 0, 200000, func(p *reel.Press, n int) { p.Webs[1].Offset = n }),
		around("Before", api.ErrRange, 0, 5000, func(p *reel.Press, n int) { p.Webs[1].Before = n }),
		around("After", api.ErrRange, 0, 5000, func(p *reel.Press, n int) { p.Webs[1].After = n }),
		around("Id", api.ErrReel, 0, 1000000, func(p *reel.Press, n int) {
			p.Webs[0].Reels, p.Webs[1].Reels[0].Id = reels(100, 9, 9), 102
			last(p).Id = n
		}),
		around("Width", api.ErrReel, 1, 3000, func(p *reel.Press, n int) { last(p).Width = n }),
		around("Length", api.ErrReel, 0, 20000000, func(p *reel.Press, n int) { last(p).Length = n }),
		around("Core", api.ErrReel, 0, 10200, func(p *reel.Press, n int) { last(p).Core = n }),
		[]pressCase{
			changed("Length below the Core", api.ErrReel, func(p *reel.Press) { p.Webs[0].Reels[0].Length = 199 }),
			changed("Core of a reel without paper", api.ErrReel, func(p *reel.Press) { *last(p) = reel.Reel{Id: 9, Width: 1, Core: 1} }),
			changed("Core and Length too great", api.ErrReel, func(p *reel.Press) { last(p).Length, last(p).Core = 20000001, 20000001 }),
			changed("Core and Length below 0", api.ErrReel, func(p *reel.Press) { last(p).Length, last(p).Core = -1, -1 }),
		})
}

// orderCases have Ids twice, or several errors.
func orderCases() []pressCase {
	set := func(web, i int, r reel.Reel) func(p *reel.Press) {
		return func(p *reel.Press) { p.Webs[web].Reels[i] = r }
	}
	both := func(changes ...func(p *reel.Press)) func(p *reel.Press) {
		return func(p *reel.Press) {
			for _, change := range changes {
				change(p)
			}
		}
	}
	return []pressCase{
		changed("twice in a web", api.ErrTwice, set(0, 1, reel.Reel{Id: 1, Width: 1})),
		changed("twice in two webs", api.ErrTwice, set(1, 1, reel.Reel{Id: 1, Width: 1})),
		changed("many before range", api.ErrMany, func(p *reel.Press) { p.Cut, p.Webs[1].Reels = 0, make([]reel.Reel, 21) }),
		changed("Cut before a web", api.ErrRange, both(set(0, 0, reel.Reel{}), func(p *reel.Press) { p.Cut = 0 })),
		changed("Margin before a web", api.ErrRange, both(set(0, 0, reel.Reel{}), func(p *reel.Press) { p.Margin = 21 })),
		changed("range before reels of a web", api.ErrRange, both(set(0, 0, reel.Reel{}), func(p *reel.Press) { p.Webs[0].After = -1 })),
		changed("reels before the next web", api.ErrReel, both(set(0, 1, reel.Reel{}), func(p *reel.Press) { p.Webs[1].After = -1 })),
		changed("range before reels of the next web", api.ErrRange, both(set(1, 0, reel.Reel{}), func(p *reel.Press) { p.Webs[1].Offset = -1 })),
		changed("twice before the next reel", api.ErrTwice, both(set(1, 0, reel.Reel{Id: 2, Width: 1}), set(1, 1, reel.Reel{}))),
		changed("a reel before the next one twice", api.ErrReel, both(set(1, 0, reel.Reel{}), set(1, 1, reel.Reel{Id: 2, Width: 1}))),
		changed("a reel that is twice not allowed", api.ErrReel, set(1, 1, reel.Reel{Id: 2})),
	}
}

func pressCases() []pressCase { return slices.Concat(manyCases(), rangeCases(), orderCases()) }

// P6.1: the error of a press.
func TestCheck(t *testing.T) {
	for _, c := range pressCases() {
		if e := reel.Check(c.p); e != c.want {
			t.Errorf("%v: %v, not %v: %+v", c.name, e, c.want, c.p)
		}
	}
}

// All functions return the error of the press first, and nothing else.
func TestErrorOfPress(t *testing.T) {
	for _, c := range pressCases() {
		if c.want == api.OK {
			continue
		}
		n, e := reel.Reach(c.p)
		splices, e1 := reel.Splices(c.p, -1)
		spans, e2 := reel.Thrown(c.p, -1)
		copies, e3 := reel.Run(c.p, -1)
		uses, e4 := reel.Used(c.p, -1)
		for i, e := range []api.Errno{e, e1, e2, e3, e4} {
			if e != c.want {
				t.Error(c.name, i, e)
			}
		}
		if n != 0 || splices != nil || spans != nil || copies != 0 || uses != nil {
			t.Error(c.name, n, splices, spans, copies, uses)
		}
	}
}

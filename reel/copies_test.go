package reel_test

import (
	"math"
	"math/rand"
	"slices"
	"testing"

	"foldhouse/api"
	"foldhouse/reel"
)

func expectReach(t *testing.T, p reel.Press, want int) {
	t.Helper()
	if n, e := reel.Reach(p); n != want || e != api.OK {
		t.Error(p, n, e)
	}
}

func expectSplices(t *testing.T, p reel.Press, web int, want ...int) {
	t.Helper()
	if l, e := reel.Splices(p, web); !slices.Equal(l, want) || e != api.OK {
		t.Error(p, web, l, e)
	}
}

func expectThrown(t *testing.T, p reel.Press, copies int, want ...api.Span) {
	t.Helper()
	if l, e := reel.Thrown(p, copies); !slices.Equal(l, want) || e != api.OK {
		t.Error(p, copies, l, e)
	}
}

func expectRun(t *testing.T, p reel.Press, good, want int, code api.Errno) {
	t.Helper()
	if n, e := reel.Run(p, good); n != want || e != code {
		t.Error(p, good, n, e)
	}
}

func expectUsed(t *testing.T, p reel.Press, copies int, want ...reel.Use) {
	t.Helper()
	if l, e := reel.Used(p, copies); !slices.Equal(l, want) || e != api.OK {
		t.Error(p, copies, l, e)
	}
}

func span(lo, hi int) api.Span { return api.Span{Lo: lo, Hi: hi} }

// P6.1: the reach.
func TestReach(t *testing.T) {
	expectReach(t, example(), 39)
	expectReach(t, second(), 39)
	expectReach(t, single(500, 0, 0, 0, 0), 0)
	expectReach(t, single(500, 0, 0, 0, 0, 499), 0)
	expectReach(t, single(500, 0, 0, 0, 0, 499, 1), 1)
	expectReach(t, single(500, 0, 1, 0, 0, 499, 1), 0)
	expectReach(t, single(500, 0, 1, 0, 0, 499, 1, 0, 1), 1)
	expectReach(t, single(500, 0, 200000, 0, 0, 199999), 0)
	expectReach(t, single(500, 0, 200000, 0, 0, 1), 0)
	expectReach(t, single(500, 0, 200000, 0, 0, 201499), 2)
	p := second()
	p.Webs[1].Reels = nil
	expectReach(t, p, 0)
}

// P6.1: the reach is api.MaxCopies at most.
func TestReachOfMuch(t *testing.T) {
	for _, p := range []reel.Press{huge(1), huge(6)} {
		expectReach(t, p, api.MaxCopies)
		expectThrown(t, p, api.MaxCopies)
		expectRun(t, p, api.MaxCopies, api.MaxCopies, api.OK)
		if l, e := reel.Thrown(p, api.MaxCopies+1); l != nil || e != api.ErrReel {
			t.Error(l, e)
		}
		if l, e := reel.Used(p, api.MaxCopies+1); l != nil || e != api.ErrReel {
			t.Error(l, e)
		}
		p.Webs[0].After = 1
		expectThrown(t, p, 133334, span(66666, 66666), span(133333, 133333))
		expectRun(t, p, api.MaxCopies, 0, api.ErrReel)
		expectRun(t, p, api.MaxCopies-14, api.MaxCopies, api.OK)
		expectRun(t, p, api.MaxCopies-13, 0, api.ErrReel)
	}
	p := huge(1)
	p.Cut = 400
	expectReach(t, p, 1000000)
	p.Webs[0].Offset = 1
	expectReach(t, p, 999999)
}

// P6.1: where splices are.
func TestSplices(t *testing.T) {
	expectSplices(t, example(), 0, 9800)
	expectSplices(t, second(), 1, 9800)
	p := single(500, 0, 300, 7, 8, 10, 0, 20, 0)
	p.Webs = append(p.Webs, reel.Web{}, reel.Web{Reels: reels(10, 5)}, reel.Web{Reels: reels(20, 0, 0, 4)})
	expectSplices(t, p, 0, 10, 10, 30)
	expectSplices(t, p, 1)
	expectSplices(t, p, 2)
	expectSplices(t, p, 3, 0, 0)
	for _, web := range []int{math.MinInt, -1, 4, math.MaxInt} {
		if l, e := reel.Splices(p, web); l != nil || e != api.ErrArg {
			t.Error(web, l, e)
		}
	}
}

// P6.2: the chapter's examples 1 and 2.
func TestThrownExamples(t *testing.T) {
	expectThrown(t, example(), 39, span(18, 20))
	expectThrown(t, example(), 20, span(18, 19))
	expectThrown(t, example(), 18)
	expectThrown(t, example(), 0)
	p := second()
	expectThrown(t, p, 39, span(17, 20))
	p.Margin = 0
	expectThrown(t, p, 39, span(18, 19))
	p.Webs[1].Reels = reels(3, 20000)
	expectThrown(t, p, 39, span(19, 19))
}

// P6.2: a splice spoils the millimetres from Before to After, and no others.
func TestThrownEdges(t *testing.T) {
	expectThrown(t, single(500, 0, 0, 0, 0, 1200, 9000), 20)
	expectThrown(t, single(500, 5, 0, 0, 0, 1200, 9000), 20)
	expectThrown(t, single(500, 0, 0, 1, 0, 1000, 9000), 20, span(1, 1))
	expectThrown(t, single(500, 0, 0, 0, 1, 1000, 9000), 20, span(2, 2))
	expectThrown(t, single(500, 0, 0, 500, 0, 1000, 9000), 20, span(1, 1))
	expectThrown(t, single(500, 0, 0, 501, 0, 1000, 9000), 20, span(0, 1))
	expectThrown(t, single(500, 0, 0, 0, 500, 1000, 9000), 20, span(2, 2))
	expectThrown(t, single(500, 0, 0, 0, 501, 1000, 9000), 20, span(2, 3))
	expectThrown(t, single(500, 0, 0, 1, 1, 1000, 9000), 20, span(1, 2))
	expectThrown(t, single(500, 0, 300, 0, 1, 1299, 9000), 19, span(1, 1))
	expectThrown(t, single(500, 0, 300, 0, 1, 1300, 9000), 19, span(2, 2))
}

// P6.2: intervals neither overlap nor adjoin.
func TestThrownJoined(t *testing.T) {
	expectThrown(t, single(500, 0, 0, 0, 1, 1000, 500, 500, 1000, 9000), 20, span(2, 4), span(6, 6))
	expectThrown(t, single(500, 1, 0, 0, 1, 1000, 1000, 1500, 2000, 9000), 20, span(1, 8), span(10, 12))
	expectThrown(t, single(500, 2, 0, 0, 1, 1000, 1000, 1500, 3000, 9000), 20, span(0, 9), span(11, 15))
	// The spliced copies of the second web begin before those of the first one, and end behind them.
	p := single(500, 0, 0, 0, 1, 2000, 9000)
	p.Webs = append(p.Webs, reel.Web{Before: 1000, After: 1500, Reels: reels(10, 2000, 9000)})
	expectThrown(t, p, 20, span(2, 6))
	p.Webs[1].Reels = reels(10, 9000, 2000)
	expectThrown(t, p, 20, span(4, 4), span(16, 19))
	// And those of the third one come between.
	p.Webs = append(p.Webs, reel.Web{After: 1, Reels: reels(20, 3000, 9000)})
	expectThrown(t, p, 20, span(4, 4), span(6, 6), span(16, 19))
}

// P6.2: copies that are spoiled before copy 0 or behind the run throw out others.
func TestThrownBeyond(t *testing.T) {
	expectThrown(t, single(500, 0, 1000, 0, 1, 999, 9000), 10)
	expectThrown(t, single(500, 1, 1000, 0, 1, 999, 9000), 10, span(0, 0))
	expectThrown(t, single(500, 1, 1000, 0, 1, 499, 9000), 10)
	expectThrown(t, single(500, 2, 1000, 0, 1, 499, 9000), 10, span(0, 0))
	expectThrown(t, single(500, 3, 1000, 0, 1, 499, 9000), 10, span(0, 1))
	expectThrown(t, single(500, 20, 200000, 0, 1, 190500, 20000), 15, span(0, 1))
	expectThrown(t, single(500, 2, 0, 0, 1, 5000, 5000), 8)
	expectThrown(t, single(500, 2, 0, 0, 1, 5000, 5000), 9, span(8, 8))
	// The first reel gives nothing, and so the splice is before all paper; the last one, and so it is behind it.
	expectThrown(t, single(500, 1, 0, 100, 0, 0, 9000), 10, span(0, 0))
	expectThrown(t, single(500, 0, 0, 0, 100, 0, 9000), 10, span(0, 0))
	expectThrown(t, single(500, 1, 0, 0, 1, 5000, 0), 10, span(9, 9))
	expectThrown(t, single(500, 20, 0, 0, 5000, 5000, 0), 10, span(0, 9))
}

// P6.2: the errors of Thrown and Used.
func TestCopiesErrors(t *testing.T) {
	for copies, want := range map[int]api.Errno{math.MinInt: api.ErrRange, -1: api.ErrRange, 0: api.OK, 39: api.OK, 40: api.ErrReel, math.MaxInt: api.ErrReel} {
		spans, e := reel.Thrown(example(), copies)
		uses, e1 := reel.Used(example(), copies)
		if e != want || e1 != want {
			t.Error(copies, e, e1)
		}
		if e != api.OK && (spans != nil || uses != nil) {
			t.Error(copies, spans, uses)
		}
	}
}

// P6.2: the chapter's example 3, and the errors of Run.
func TestRun(t *testing.T) {
	for good, want := range map[int]int{0: 0, 1: 1, 18: 18, 19: 22, 20: 23, 36: 39} {
		expectRun(t, example(), good, want, api.OK)
	}
	for good, want := range map[int]api.Errno{math.MinInt: api.ErrRange, -1: api.ErrRange, 37: api.ErrReel, 39: api.ErrReel, 40: api.ErrReel, 1000000: api.ErrReel, 1000001: api.ErrRange, math.MaxInt: api.ErrRange} {
		expectRun(t, example(), good, 0, want)
	}
	// Copies are thrown out at the beginning and at the end.
	p := single(500, 0, 0, 0, 501, 0, 5000, 0)
	expectThrown(t, p, 10, span(0, 1))
	expectRun(t, p, 0, 0, api.OK)
	expectRun(t, p, 1, 3, api.OK)
	p.Margin = 1
	expectThrown(t, p, 10, span(0, 2), span(9, 9))
	expectRun(t, p, 6, 9, api.OK)
	expectRun(t, p, 7, 0, api.ErrReel)
	// No copy is good.
	p.Margin = 20
	expectThrown(t, p, 10, span(0, 9))
	expectRun(t, p, 0, 0, api.OK)
	expectRun(t, p, 1, 0, api.ErrReel)
}

// P6.2: what is used of reels.
func TestUsed(t *testing.T) {
	p := second()
	expectUsed(t, p, 20, reel.Use{Reel: 1, Used: 9800, Rest: 200}, reel.Use{Reel: 2, Used: 200, Rest: 9800}, reel.Use{Reel: 3, Used: 9800}, reel.Use{Reel: 4, Used: 500, Rest: 9700})
	expectUsed(t, p, 0, reel.Use{Reel: 1, Rest: 10000}, reel.Use{Reel: 2, Rest: 10000}, reel.Use{Reel: 3, Rest: 9800}, reel.Use{Reel: 4, Rest: 10200})
	expectUsed(t, p, 1, reel.Use{Reel: 1, Used: 500, Rest: 9500}, reel.Use{Reel: 2, Rest: 10000}, reel.Use{Reel: 3, Used: 800, Rest: 9000}, reel.Use{Reel: 4, Rest: 10200})
	expectUsed(t, p, 39, reel.Use{Reel: 1, Used: 9800, Rest: 200}, reel.Use{Reel: 2, Used: 9700, Rest: 300}, reel.Use{Reel: 3, Used: 9800}, reel.Use{Reel: 4, Used: 10000, Rest: 200})
	// The offset uses up the first reels, and one that gives nothing has its Core.
	p = single(500, 0, 1200, 0, 0, 700, 0, 800, 500)
	p.Webs[0].Reels[1].Length, p.Webs[0].Reels[1].Core = 9, 9
	expectUsed(t, p, 1, reel.Use{Reel: 1, Used: 700}, reel.Use{Reel: 2, Rest: 9}, reel.Use{Reel: 3, Used: 800}, reel.Use{Reel: 4, Used: 200, Rest: 300})
	expectUsed(t, p, 0, reel.Use{Reel: 1, Rest: 700}, reel.Use{Reel: 2, Rest: 9}, reel.Use{Reel: 3, Rest: 800}, reel.Use{Reel: 4, Rest: 500})
	expectUsed(t, reel.Press{Cut: 500, Webs: []reel.Web{{}}}, 0)
}

// expectUses checks what is used of reels, millimetre by millimetre.
func expectUses(t *testing.T, p reel.Press, copies int) {
	t.Helper()
	var want []reel.Use
	for _, web := range p.Webs {
		used := make([]int, len(web.Reels))
		for n, i := range paper(web) {
			if copies > 0 && n < web.Offset+copies*p.Cut {
				used[i]++
			}
		}
		for i, r := range web.Reels {
			want = append(want, reel.Use{Reel: r.Id, Used: used[i], Rest: r.Length - used[i]})
		}
	}
	expectUsed(t, p, copies, want...)
}

// expectRuns checks how many copies are printed for all numbers of good ones.
func expectRuns(t *testing.T, p reel.Press, out []bool) {
	t.Helper()
	expectRun(t, p, 0, 0, api.OK)
	good := 0
	for k, is := range out {
		if !is {
			good++
			expectRun(t, p, good, k+1, api.OK)
		}
	}
	expectRun(t, p, good+1, 0, api.ErrReel)
}

// P6.1, P6.2: what presses do, by the words of the chapter.
func TestAnyPress(t *testing.T) {
	rnd := rand.New(rand.NewSource(6))
	reached, joined := 0, 0
	for range 400 {
		p := anyPress(rnd)
		n := reach(p)
		expectReach(t, p, n)
		out := thrown(p, n)
		expectThrown(t, p, n, spans(out)...)
		expectRuns(t, p, out)
		copies := rnd.Intn(n + 1)
		expectThrown(t, p, copies, spans(thrown(p, copies))...)
		expectUses(t, p, n)
		expectUses(t, p, copies)
		reached += min(n, 1)
		joined += min(len(spans(out)), 2) / 2
	}
	if reached < 50 || joined < 20 {
		t.Error("not enough presses", reached, joined)
	}
}

// P6.5: more margin throws out no copy less, and the copies of fewer that are thrown out are those of more.
func TestMoreThrown(t *testing.T) {
	rnd := rand.New(rand.NewSource(65))
	for range 500 {
		p := anyPress(rnd)
		n, _ := reel.Reach(p)
		p.Margin = min(p.Margin, 19)
		less, _ := reel.Thrown(p, n)
		fewer, _ := reel.Thrown(p, n/2)
		p.Margin++
		more, _ := reel.Thrown(p, n)
		for k := range n {
			if isIn(less, k) && !isIn(more, k) {
				t.Error(p, k, less, more)
			}
			if isIn(fewer, k) != (isIn(less, k) && k < n/2) {
				t.Error(p, k, fewer, less)
			}
		}
	}
}

// isIn reports whether a copy is in one of some intervals.
func isIn(l []api.Span, k int) bool {
	return slices.ContainsFunc(l, func(s api.Span) bool { return s.Lo <= k && k <= s.Hi })
}

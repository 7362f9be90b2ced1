package edition_test

import (
	"math"
	"math/rand"
	"slices"
	"testing"

	"foldhouse/api"
	"foldhouse/edition"
)

// P3.5: how long a page may be waited for.
func TestLatest(t *testing.T) {
	x := example()
	x.Zones[1].Due = 2000
	x.Zones[3].Due = 2500
	for _, c := range []struct{ page, variant, want int }{
		// Edition 1 takes 40 seconds to change, and 300 to print.
		{1, 1, 1660},
		{0, 0, 160}, {3, 0, 160},
		// Edition 2 takes 80 and 60.
		{2, 1, 2360}, {0, 1, 2360},
		{0, 7, 86400}, {3, 9, 86400},
	} {
		if n, e := edition.Latest(x, []int{0, 1, 2}, c.page, c.variant); e != api.OK || n != c.want {
			t.Error(c, n, e)
		}
	}
	x.Zones[1].Due, x.Zones[3].Due = 86400, 86400
	if n, e := edition.Latest(x, []int{0, 1, 2}, 2, 1); e != api.OK || n != 86400-140 {
		t.Error(n, e)
	}
	// Its second in the title does not matter, but those of the others do.
	x.Ready = []edition.Ready{{Page: 2, Variant: 1, At: 86400}}
	if n, e := edition.Latest(x, []int{0, 1, 2}, 2, 1); e != api.OK || n != 86400-140 {
		t.Error(n, e)
	}
	if n, e := edition.Latest(x, []int{0, 1, 2}, 1, 1); e != api.ErrNone || n != 0 {
		t.Error(n, e)
	}
}

// P3.5: an order that is in time with the second 0 alone, and one that is not.
func TestLatestLimits(t *testing.T) {
	x := blank(2, 1, 0)
	x.Zones[0].Due = 60
	if n, e := edition.Latest(x, []int{0}, 0, 0); e != api.OK || n != 0 {
		t.Error(n, e)
	}
	if n, e := edition.Latest(x, []int{0}, 0, 1); e != api.OK || n != edition.MaxTime {
		t.Error(n, e)
	}
	x.Zones[0].Due = 59
	for variant := range 2 {
		if n, e := edition.Latest(x, []int{0}, 0, variant); e != api.ErrNone || n != 0 {
			t.Error(n, e)
		}
	}
	for _, c := range [][2]int{{-1, 0}, {2, 0}, {0, -1}, {0, 10}, {math.MinInt, 0}, {math.MaxInt, 0}, {0, math.MinInt}, {0, math.MaxInt}} {
		if n, e := edition.Latest(x, []int{0}, c[0], c[1]); e != api.ErrArg || n != 0 {
			t.Error(c, n, e)
		}
	}
}

// P3.5: a page may be asked for though as many as can be are named in Ready.
func TestLatestOfFullTitle(t *testing.T) {
	x := blank(64, 1, 200)
	x.Zones[0].Due = 1000
	for _, c := range [][3]int{{63, 0, 940}, {0, 0, 940}, {63, 9, 86400}, {19, 9, 86400}} {
		if n, e := edition.Latest(x, []int{0}, c[0], c[1]); e != api.OK || n != c[2] {
			t.Error(c, n, e)
		}
	}
}

// P3.5, P3.6: an order is in time just up to the second that Latest returns.
func TestAnyLatest(t *testing.T) {
	rnd := rand.New(rand.NewSource(4))
	none, limits := 0, 0
	for range 5000 {
		x := anyTitle(rnd)
		order := rnd.Perm(len(editionsOf(x)))
		page, variant := rnd.Intn(len(x.Colours)), rnd.Intn(10)
		if rnd.Intn(3) > 0 {
			variant = x.Zones[rnd.Intn(len(x.Zones))].Variants[page]
		}
		late := func(second int) bool {
			y := copyOf(x)
			y.Ready = slices.DeleteFunc(y.Ready, func(r edition.Ready) bool { return r.Page == page && r.Variant == variant })
			y.Ready = append(y.Ready, edition.Ready{Page: page, Variant: variant, At: second})
			return lateOf(y, slotsOf(y, order)) >= 0
		}
		n, e := edition.Latest(x, order, page, variant)
		if late(0) {
			none++
			if e != api.ErrNone || n != 0 {
				t.Errorf("%v %v %v %v %v: %+v", order, page, variant, n, e, x)
			}
			continue
		}
		if e != api.OK || late(n) || n < edition.MaxTime && !late(n+1) || n > edition.MaxTime {
			t.Errorf("%v %v %v %v %v: %+v", order, page, variant, n, e, x)
		}
		if n < 2000 {
			limits++
		}
	}
	if none < 500 || limits < 500 {
		t.Error(none, limits)
	}
}

// P3.5: the copies of the chapter's example.
func TestPartsExample(t *testing.T) {
	x := example()
	x.Zones = append(x.Zones, zone(0, 0, 0, 0, 0))
	want := []edition.Part{
		{Zone: 3, Span: api.Span{Lo: 0, Hi: 59}},
		{Zone: 0, Span: api.Span{Lo: 60, Hi: 659}},
		{Zone: 2, Span: api.Span{Lo: 660, Hi: 1559}},
		{Zone: 1, Span: api.Span{Lo: 1560, Hi: 1859}},
	}
	order := []int{2, 0, 1}
	if l, e := edition.Parts(x, order); e != api.OK || !slices.Equal(l, want) {
		t.Error(l, e)
	}
	for _, c := range [][3]int{{0, 3, 2}, {59, 3, 2}, {60, 0, 0}, {659, 0, 0}, {660, 2, 0}, {1559, 2, 0}, {1560, 1, 1}, {1859, 1, 1}} {
		if zone, n, e := edition.Which(x, order, c[0]); e != api.OK || zone != c[1] || n != c[2] {
			t.Error(c, zone, n, e)
		}
	}
	for _, c := range []int{-1, 1860, math.MinInt, math.MaxInt} {
		if zone, n, e := edition.Which(x, order, c); e != api.ErrRange || zone != 0 || n != 0 {
			t.Error(c, zone, n, e)
		}
	}
}

// P3.5, P3.6: each zone gets as many copies as it has, all of its edition.
func TestAnyParts(t *testing.T) {
	rnd := rand.New(rand.NewSource(5))
	for range 500 {
		x := anyTitle(rnd)
		l := editionsOf(x)
		order := rnd.Perm(len(l))
		var zones, numbers []int
		for _, n := range order {
			for _, zone := range l[n].Zones {
				zones = append(zones, slices.Repeat([]int{zone}, x.Zones[zone].Copies)...)
				numbers = append(numbers, slices.Repeat([]int{n}, x.Zones[zone].Copies)...)
			}
		}
		for i := range zones {
			if zone, n, e := edition.Which(x, order, i); e != api.OK || zone != zones[i] || n != numbers[i] {
				t.Errorf("%v %v %v %v: %+v", i, zone, n, e, x)
			}
			if !slices.Equal(x.Zones[zones[i]].Variants, l[numbers[i]].Variants) {
				t.Errorf("%v: %+v", i, x)
			}
		}
		if _, _, e := edition.Which(x, order, len(zones)); e != api.ErrRange {
			t.Errorf("%v: %+v", e, x)
		}
		parts, e := edition.Parts(x, order)
		next := 0
		for _, p := range parts {
			if p.Span.Lo != next || p.Span.Hi < next || p.Span.Hi-next+1 != x.Zones[p.Zone].Copies || zones[next] != p.Zone {
				t.Errorf("%v: %+v", parts, x)
				break
			}
			next = p.Span.Hi + 1
		}
		if e != api.OK || next != len(zones) {
			t.Errorf("%v %v: %+v", parts, e, x)
		}
	}
}

package mail_test

import (
	"math"
	"math/rand"
	"slices"
	"testing"

	"foldhouse/api"
	"foldhouse/edition"
	"foldhouse/mail"
)

// title returns a title of one page, with zones of so many copies, that get so many variants in turn.
func title(variants int, copies ...int) edition.Title {
	t := edition.Title{Colours: []int{1}, Rate: 60}
	for i, n := range copies {
		t.Zones = append(t.Zones, edition.Zone{Copies: n, Variants: []int{i % variants}})
	}
	return t
}

func expectZones(t *testing.T, x edition.Title, order []int, n int, e api.Errno, want ...int) {
	t.Helper()
	if l, is := mail.ZonesOf(x, order, n); is != e || !slices.Equal(l, want) || e != api.OK && l != nil {
		t.Error(x, order, n, l, is, e, want)
	}
}

// P9.4: the zones of the first copies.
func TestZonesOf(t *testing.T) {
	x := title(2, 2, 1, 3, 0, 1)
	expectZones(t, x, []int{0, 1}, 0, api.OK)
	expectZones(t, x, []int{0, 1}, 1, api.OK, 0)
	expectZones(t, x, []int{0, 1}, 2, api.OK, 0, 0)
	expectZones(t, x, []int{0, 1}, 3, api.OK, 0, 0, 2)
	expectZones(t, x, []int{0, 1}, 7, api.OK, 0, 0, 2, 2, 2, 4, 1)
	expectZones(t, x, []int{1, 0}, 7, api.OK, 1, 0, 0, 2, 2, 2, 4)
	expectZones(t, x, []int{1, 0}, 5, api.OK, 1, 0, 0, 2, 2)
	expectZones(t, title(1, 4000, 3000), []int{0}, 5000, api.OK, slices.Concat(make([]int, 4000), slices.Repeat([]int{1}, 1000))...)
	expectZones(t, title(1, api.MaxCopies, api.MaxCopies), []int{0}, 5000, api.OK, make([]int, 5000)...)
}

// P9.4: the errors of ZonesOf.
func TestZonesOfErrors(t *testing.T) {
	x := title(2, 2, 1, 3)
	for _, n := range []int{math.MinInt, -1, 7, 5000, 5001, math.MaxInt} {
		expectZones(t, x, []int{0, 1}, n, api.ErrRange)
	}
	expectZones(t, title(1, 10000), []int{0}, 5001, api.ErrRange)
	expectZones(t, title(1, 10000), []int{0}, -1, api.ErrRange)
	// The errors of layer 3 come first.
	for _, n := range []int{-1, 2, 7, 5001} {
		expectZones(t, x, []int{0}, n, api.ErrArg)
		expectZones(t, x, []int{1, 1}, n, api.ErrArg)
		expectZones(t, x, nil, n, api.ErrArg)
		expectZones(t, edition.Title{}, nil, n, api.ErrMany)
		expectZones(t, title(1, 0, 0), nil, n, api.ErrNone)
	}
}

// P9.4: the zones of copies are those that layer 3 tells.
func TestAnyZonesOf(t *testing.T) {
	rnd := rand.New(rand.NewSource(96))
	for range 300 {
		var copies []int
		for range 1 + rnd.Intn(api.MaxZones) {
			copies = append(copies, rnd.Intn(3)*rnd.Intn(6))
		}
		x := title(1+rnd.Intn(5), copies...)
		editions, e := edition.Editions(x)
		if e != api.OK {
			continue
		}
		order := rnd.Perm(len(editions))
		var want []int
		for n := 0; ; n++ {
			zone, _, e := edition.Which(x, order, n)
			if e != api.OK {
				expectZones(t, x, order, n+1, api.ErrRange)
				break
			}
			want = append(want, zone)
			expectZones(t, x, order, n+1, api.OK, want...)
		}
	}
}

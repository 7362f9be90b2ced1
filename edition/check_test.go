package edition_test

import (
	"math"
	"slices"
	"testing"

	"foldhouse/api"
	"foldhouse/edition"
)

// errorCase is a title with an error, or without one.
type errorCase struct {
	name string
	t    edition.Title
	want api.Errno
}

// changed returns a case: the title of the examples, changed.
func changed(name string, want api.Errno, change func(t *edition.Title)) errorCase {
	t := example()
	change(&t)
	return errorCase{name, t, want}
}

// around returns cases for a number that may be from lo to hi.
func around(name string, want api.Errno, lo, hi int, set func(t *edition.Title, n int)) []errorCase {
	var l []errorCase
	for _, n := range []int{lo, lo + 1, (lo + hi) / 2, hi} {
		l = append(l, changed(name, api.OK, func(t *edition.Title) { set(t, n) }))
	}
	for _, n := range []int{math.MinInt, lo - 1, hi + 1, math.MaxInt} {
		l = append(l, changed(name, want, func(t *edition.Title) { set(t, n) }))
	}
	return l
}

// blank returns a title of so many pages, zones and Ready, all of one edition.
func blank(pages, zones, ready int) edition.Title {
	t := edition.Title{Colours: slices.Repeat([]int{1}, pages), Rate: 1}
	for range zones {
		t.Zones = append(t.Zones, zone(1, make([]int, pages)...))
	}
	for i := range ready {
		t.Ready = append(t.Ready, edition.Ready{Page: i / 10, Variant: i % 10})
	}
	return t
}

func numberCases() []errorCase {
	return []errorCase{
		{"zero title", edition.Title{}, api.ErrMany},
		{"largest title", largest(), api.OK},
		{"one page and zone", blank(1, 1, 0), api.OK},
		{"no page", blank(0, 1, 0), api.ErrMany},
		{"no zone", blank(1, 0, 0), api.ErrMany},
		{"64 pages", blank(64, 1, 0), api.OK},
		{"65 pages", blank(65, 1, 0), api.ErrMany},
		{"12 zones", blank(1, 12, 0), api.OK},
		{"13 zones", blank(1, 13, 0), api.ErrMany},
		{"200 Ready", blank(64, 1, 200), api.OK},
		{"201 Ready", blank(64, 1, 201), api.ErrMany},
		changed("as it is", api.OK, func(t *edition.Title) {}),
		changed("empty pages", api.ErrMany, func(t *edition.Title) { t.Colours = []int{} }),
		changed("empty zones", api.ErrMany, func(t *edition.Title) { t.Zones = []edition.Zone{} }),
	}
}

func rangeCases() []errorCase {
	return slices.Concat(
		around("Start", api.ErrRange, 0, 86400, func(t *edition.Title, n int) { t.Start = n }),
		around("Rate", api.ErrRange, 1, 3000, func(t *edition.Title, n int) { t.Rate = n }),
		around("Stop", api.ErrRange, 0, 3600, func(t *edition.Title, n int) { t.Stop = n }),
		around("Hang", api.ErrRange, 0, 3600, func(t *edition.Title, n int) { t.Hang = n }),
	)
}

func pageCases() []errorCase {
	pairs := func(name string, want api.Errno, pages ...int) errorCase {
		return changed(name, want, func(t *edition.Title) { t.Colours, t.Pairs = []int{2, 2, 2, 4}, pages })
	}
	return append(around("colours", api.ErrPage, 1, 4, func(t *edition.Title, n int) { t.Colours[3] = n }),
		pairs("no panorama", api.OK),
		pairs("first page", api.OK, 0),
		pairs("second page", api.OK, 1),
		pairs("different colours", api.ErrPage, 2),
		pairs("last page", api.ErrPage, 3),
		pairs("behind the last page", api.ErrPage, 4),
		pairs("before the first page", api.ErrPage, -1),
		pairs("least number", api.ErrPage, math.MinInt),
		pairs("greatest number", api.ErrPage, math.MaxInt),
		pairs("the same twice", api.ErrPage, 0, 0),
		pairs("a page in two", api.ErrPage, 0, 1),
		pairs("a page in two, not in order", api.ErrPage, 1, 0),
		changed("not in order", api.OK, func(t *edition.Title) { t.Colours, t.Pairs = []int{2, 2, 4, 4}, []int{2, 0} }),
		changed("a page of one", api.ErrPage, func(t *edition.Title) { *t = blank(1, 1, 0); t.Pairs = []int{0} }),
	)
}

func zoneCases() []errorCase {
	return slices.Concat(
		around("Copies", api.ErrRange, 0, 1000000, func(t *edition.Title, n int) { t.Zones[1].Copies = n }),
		around("Due", api.ErrRange, 0, 86400, func(t *edition.Title, n int) { t.Zones[1].Due = n }),
		around("variant", api.ErrEdition, 0, 9, func(t *edition.Title, n int) { t.Zones[1].Variants[3] = n }),
		around("Due of no copies", api.ErrRange, 0, 86400, func(t *edition.Title, n int) { t.Zones[1].Copies, t.Zones[1].Due = 0, n }),
		[]errorCase{
			changed("no variants", api.ErrEdition, func(t *edition.Title) { t.Zones[1].Variants = nil }),
			changed("a variant too few", api.ErrEdition, func(t *edition.Title) { t.Zones[3].Variants = []int{1, 2, 3} }),
			changed("a variant too many", api.ErrEdition, func(t *edition.Title) { t.Zones[3].Variants = []int{1, 2, 3, 4, 5} }),
			changed("variants of no copies", api.ErrEdition, func(t *edition.Title) { t.Zones[3] = zone(0, 1) }),
		})
}

func readyCases() []errorCase {
	ready := func(name string, want api.Errno, l ...edition.Ready) errorCase {
		return changed(name, want, func(t *edition.Title) { t.Ready = l })
	}
	return slices.Concat(
		around("Page", api.ErrRange, 0, 3, func(t *edition.Title, n int) { t.Ready = []edition.Ready{{Page: n}} }),
		around("Variant", api.ErrRange, 0, 9, func(t *edition.Title, n int) { t.Ready = []edition.Ready{{Variant: n}} }),
		around("At", api.ErrRange, 0, 86400, func(t *edition.Title, n int) { t.Ready = []edition.Ready{{At: n}} }),
		[]errorCase{
			ready("different", api.OK, edition.Ready{Page: 1}, edition.Ready{Variant: 1}, edition.Ready{Page: 1, Variant: 1}),
			ready("twice", api.ErrTwice, edition.Ready{Page: 1, Variant: 2, At: 3}, edition.Ready{Page: 1, Variant: 1}, edition.Ready{Page: 1, Variant: 2, At: 4}),
			ready("twice, and then out of range", api.ErrTwice, edition.Ready{}, edition.Ready{}, edition.Ready{At: -1}),
			ready("out of range, and then twice", api.ErrRange, edition.Ready{At: -1}, edition.Ready{}, edition.Ready{}),
			ready("twice out of range", api.ErrRange, edition.Ready{}, edition.Ready{At: -1}),
		})
}

// editionCases have no edition, or as many as there can be, or more.
func editionCases() []errorCase {
	zones := func(name string, want api.Errno, zones, editions, copies int) errorCase {
		return changed(name, want, func(t *edition.Title) {
			t.Zones = nil
			for i := range zones {
				t.Zones = append(t.Zones, zone(copies, i%editions, 0, 0, 0))
			}
		})
	}
	eight := zones("an eighth edition without copies", api.OK, 8, 8, 1)
	eight.t.Zones[5].Copies = 0
	return []errorCase{
		zones("no copies", api.ErrNone, 2, 2, 0),
		zones("no copies of eight editions", api.ErrNone, 8, 8, 0),
		zones("seven editions", api.OK, 12, 7, 1),
		zones("eight editions", api.ErrLarge, 8, 8, 1),
		eight,
	}
}

// orderCases have several errors.
func orderCases() []errorCase {
	return []errorCase{
		changed("many before range", api.ErrMany, func(t *edition.Title) { t.Rate, t.Ready = 0, make([]edition.Ready, 201) }),
		changed("range before page", api.ErrRange, func(t *edition.Title) { t.Hang, t.Colours[0] = -1, 0 }),
		changed("page before zones", api.ErrPage, func(t *edition.Title) { t.Pairs, t.Zones[0].Copies = []int{3}, -1 }),
		changed("range before edition in a zone", api.ErrRange, func(t *edition.Title) { t.Zones[1].Due, t.Zones[1].Variants = -1, nil }),
		changed("edition of an earlier zone", api.ErrEdition, func(t *edition.Title) { t.Zones[1].Variants, t.Zones[2].Due = nil, -1 }),
		changed("range of an earlier zone", api.ErrRange, func(t *edition.Title) { t.Zones[1].Due, t.Zones[2].Variants = -1, nil }),
		changed("zones before Ready", api.ErrEdition, func(t *edition.Title) { t.Zones[3].Variants, t.Ready = nil, []edition.Ready{{At: -1}} }),
		changed("Ready before no copies", api.ErrTwice, func(t *edition.Title) {
			t.Zones, t.Ready = []edition.Zone{zone(0, 0, 0, 0, 0)}, make([]edition.Ready, 2)
		}),
	}
}

func allCases() []errorCase {
	return slices.Concat(numberCases(), rangeCases(), pageCases(), zoneCases(), readyCases(), editionCases(), orderCases())
}

// P3.1: the error of a title.
func TestCheck(t *testing.T) {
	for _, c := range allCases() {
		if e := edition.Check(c.t); e != c.want {
			t.Errorf("%v: %v, not %v: %+v", c.name, e, c.want, c.t)
		}
	}
}

// All functions return the error of the title first, and nothing else.
func TestErrorOfTitle(t *testing.T) {
	bad := []int{-1}
	for _, c := range allCases() {
		editions, e := edition.Editions(c.t)
		plates, p := edition.Plates(c.t)
		fewest, sum, f := edition.Fewest(c.t)
		if e != c.want || p != c.want || f != c.want {
			t.Error(c.name, e, p, f)
		}
		if c.want == api.OK {
			continue
		}
		change, e1 := edition.Change(c.t, -1, -1)
		slots, e2 := edition.Slots(c.t, bad)
		end, e3 := edition.InTime(c.t, bad)
		best, least, e4 := edition.Best(c.t)
		table, e5 := edition.Why(c.t)
		proves, e6 := edition.Proves(c.t, bad)
		latest, e7 := edition.Latest(c.t, bad, -1, -1)
		parts, e8 := edition.Parts(c.t, bad)
		zone, number, e9 := edition.Which(c.t, bad, -1)
		for i, e := range []api.Errno{e1, e2, e3, e4, e5, e6, e7, e8, e9} {
			if e != c.want {
				t.Error(c.name, i, e)
			}
		}
		if editions != nil || plates != 0 || fewest != nil || sum != 0 || change != 0 || slots != nil || end != 0 || best != nil || least != 0 {
			t.Error(c.name, editions, plates, fewest, sum, change, slots, end, best, least)
		}
		if table != nil || proves || latest != 0 || parts != nil || zone != 0 || number != 0 {
			t.Error(c.name, table, proves, latest, parts, zone, number)
		}
	}
}

package edition_test

import (
	"math/rand"
	"reflect"
	"slices"

	"foldhouse/edition"
)

// example returns the title of the chapter's examples.
func example() edition.Title {
	return edition.Title{
		Colours: []int{4, 1, 1, 4},
		Pairs:   []int{1},
		Zones:   []edition.Zone{zone(600, 0, 0, 0, 0), zone(300, 0, 1, 0, 0), zone(900, 0, 0, 0, 0), zone(60, 1, 1, 1, 0)},
		Rate:    60,
		Stop:    30,
		Hang:    10,
	}
}

// zone returns a zone that is due at the end of the night.
func zone(copies int, variants ...int) edition.Zone {
	return edition.Zone{Copies: copies, Due: edition.MaxTime, Variants: variants}
}

// waiting returns a title in which edition 2 must wait for its page 1, and is in time only if edition 1 is printed before it: then its page 0 is changed while the press waits.
func waiting() edition.Title {
	t := edition.Title{
		Colours: []int{4, 4},
		Zones:   []edition.Zone{zone(60, 0, 0), zone(60, 1, 0), zone(60, 1, 1)},
		Ready:   []edition.Ready{{Page: 1, Variant: 1, At: 1000}},
		Rate:    60,
		Stop:    30,
		Hang:    10,
	}
	t.Zones[0].Due, t.Zones[2].Due = 60, 1130
	return t
}

// largest returns a title with as many of all as there can be, of the greatest numbers.
func largest() edition.Title {
	t := edition.Title{
		Colours: slices.Repeat([]int{4}, edition.MaxPages),
		Start:   edition.MaxTime,
		Rate:    1,
		Stop:    3600,
		Hang:    3600,
	}
	for page := 0; page < edition.MaxPages; page += 2 {
		t.Pairs = append(t.Pairs, page)
	}
	for i := range 12 {
		z := zone(1000000, slices.Repeat([]int{9}, edition.MaxPages)...)
		z.Variants[63] = i % edition.MaxEditions
		t.Zones = append(t.Zones, z)
	}
	for i := range edition.MaxReady {
		t.Ready = append(t.Ready, edition.Ready{Page: i / 10, Variant: i % 10, At: edition.MaxTime})
	}
	return t
}

// anyTitle returns a right title that the random numbers choose: of its orders all, some or none are in time.
func anyTitle(rnd *rand.Rand) edition.Title {
	for {
		t := edition.Title{Rate: 1 + rnd.Intn(100), Start: rnd.Intn(3) * rnd.Intn(50), Stop: rnd.Intn(20), Hang: rnd.Intn(10)}
		for range 1 + rnd.Intn(6) {
			t.Colours = append(t.Colours, 1+rnd.Intn(4))
		}
		for page := 0; page+1 < len(t.Colours); page++ {
			if rnd.Intn(3) == 0 {
				t.Colours[page+1] = t.Colours[page]
				t.Pairs = append(t.Pairs, page)
				page++
			}
		}
		rnd.Shuffle(len(t.Pairs), func(i, k int) { t.Pairs[i], t.Pairs[k] = t.Pairs[k], t.Pairs[i] })
		addZones(&t, rnd)
		addReady(&t, rnd)
		if n := len(editionsOf(t)); n >= 1 && n <= edition.MaxEditions {
			return t
		}
	}
}

// addZones adds zones, of which half are due much later than the others.
func addZones(t *edition.Title, rnd *rand.Rand) {
	span := 1 + rnd.Intn(1500)
	for range 1 + rnd.Intn(8) {
		z := zone(max(0, rnd.Intn(120)-10))
		if rnd.Intn(2) == 0 {
			z.Due = rnd.Intn(span)
		}
		for range t.Colours {
			z.Variants = append(z.Variants, rnd.Intn(4)*rnd.Intn(4))
		}
		if len(t.Zones) > 0 && rnd.Intn(3) == 0 {
			copy(z.Variants, t.Zones[rnd.Intn(len(t.Zones))].Variants)
		}
		t.Zones = append(t.Zones, z)
	}
}

func addReady(t *edition.Title, rnd *rand.Rand) {
	for range rnd.Intn(6) {
		page := rnd.Intn(len(t.Colours))
		r := edition.Ready{Page: page, Variant: rnd.Intn(10), At: rnd.Intn(600)}
		if rnd.Intn(2) == 0 {
			r.Variant = t.Zones[rnd.Intn(len(t.Zones))].Variants[page]
		}
		if !slices.ContainsFunc(t.Ready, func(other edition.Ready) bool { return other.Page == page && other.Variant == r.Variant }) {
			t.Ready = append(t.Ready, r)
		}
	}
}

// editionsOf returns the editions of a title, found another way than by the package: zones are compared with all before.
func editionsOf(t edition.Title) []edition.Edition {
	var l []edition.Edition
zones:
	for i, z := range t.Zones {
		if z.Copies == 0 {
			continue
		}
		for k := range l {
			if slices.Equal(l[k].Variants, z.Variants) {
				l[k].Zones = append(l[k].Zones, i)
				l[k].Copies += z.Copies
				l[k].Due = min(l[k].Due, z.Due)
				continue zones
			}
		}
		x := edition.Edition{Zones: []int{i}, Copies: z.Copies, Due: z.Due, Variants: slices.Clone(z.Variants)}
		for _, r := range t.Ready {
			if z.Variants[r.Page] == r.Variant && r.At > x.Ready {
				x.Ready = r.At
			}
		}
		l = append(l, x)
	}
	return l
}

// changeOf returns how many plates have to be changed between two lists of variants.
func changeOf(t edition.Title, a, b []int) int {
	n := 0
	for page, colours := range t.Colours {
		if slices.Contains(t.Pairs, page-1) {
			continue
		}
		if a[page] != b[page] || slices.Contains(t.Pairs, page) && a[page+1] != b[page+1] {
			n += colours
		}
	}
	return n
}

// slotsOf returns the slots of an order, of all editions or of some.
func slotsOf(t edition.Title, order []int) []edition.Slot {
	l := editionsOf(t)
	var out []edition.Slot
	for i, n := range order {
		s := edition.Slot{Edition: n}
		if i == 0 {
			// No variant is -1: all plates differ.
			s.Plates = changeOf(t, slices.Repeat([]int{-1}, len(t.Colours)), l[n].Variants)
			s.Begin = max(t.Start, l[n].Ready)
		} else {
			s.Plates = changeOf(t, l[order[i-1]].Variants, l[n].Variants)
			s.Begin = max(out[i-1].End, l[n].Ready) + t.Stop + s.Plates*t.Hang
		}
		s.End = s.Begin
		for left := 60 * l[n].Copies; left > 0; left -= t.Rate {
			s.End++
		}
		out = append(out, s)
	}
	return out
}

// lateOf returns the index of the first slot that ends too late, or -1.
func lateOf(t edition.Title, slots []edition.Slot) int {
	l := editionsOf(t)
	return slices.IndexFunc(slots, func(s edition.Slot) bool { return s.End > l[s.Edition].Due })
}

func platesOf(slots []edition.Slot) int {
	n := 0
	for _, s := range slots {
		n += s.Plates
	}
	return n
}

// ordersOf returns all orders of n editions, in lexicographic order.
func ordersOf(n int) [][]int {
	l := [][]int{nil}
	for range n {
		var longer [][]int
		for _, order := range l {
			for i := range n {
				if !slices.Contains(order, i) {
					longer = append(longer, append(slices.Clone(order), i))
				}
			}
		}
		l = longer
	}
	return l
}

// copyOf returns a title that is equal to t and shares no memory with it.
func copyOf(t edition.Title) edition.Title {
	t.Colours, t.Pairs, t.Zones, t.Ready = slices.Clone(t.Colours), slices.Clone(t.Pairs), slices.Clone(t.Zones), slices.Clone(t.Ready)
	for i := range t.Zones {
		t.Zones[i].Variants = slices.Clone(t.Zones[i].Variants)
	}
	return t
}

// same reports whether two values are deeply equal.
func same(a, b any) bool { return reflect.DeepEqual(a, b) }

// sameEdition reports whether two editions are equal.
func sameEdition(a, b edition.Edition) bool {
	return slices.Equal(a.Zones, b.Zones) && slices.Equal(a.Variants, b.Variants) && a.Copies == b.Copies && a.Ready == b.Ready && a.Due == b.Due
}

package edition_test

import (
	"math"
	"math/rand"
	"slices"
	"testing"

	"foldhouse/api"
	"foldhouse/edition"
)

// late returns the title of the chapter's example 4 that has no order in time, and its table.
func late() (edition.Title, []int) {
	x := example()
	x.Zones[1].Due, x.Zones[3].Due = 100, 100
	table := slices.Repeat([]int{-1}, 24)
	table[1*3+0], table[4*3+2], table[5*3+0] = 1500, 60, 1640
	return x, table
}

// tableOf returns the least ends in time, found from all orders of all sets of editions.
func tableOf(x edition.Title) []int {
	n := len(editionsOf(x))
	table := slices.Repeat([]int{-1}, n<<n)
	for _, order := range ordersOf(n) {
		for length := 1; length <= n; length++ {
			s := slotsOf(x, order[:length])
			if lateOf(x, s) >= 0 {
				break
			}
			set := 0
			for _, i := range order[:length] {
				set |= 1 << i
			}
			at := n*set + order[length-1]
			if end := s[length-1].End; table[at] < 0 || end < table[at] {
				table[at] = end
			}
		}
	}
	return table
}

// provesOf reports whether a table is a proof, as the chapter says it.
func provesOf(x edition.Title, table []int) bool {
	l := editionsOf(x)
	n := len(l)
	for i := range l {
		if s := slotsOf(x, []int{i})[0]; s.End <= l[i].Due && (table[n<<i+i] == -1 || table[n<<i+i] > s.End) {
			return false
		}
		if table[n*(1<<n-1)+i] != -1 {
			return false
		}
	}
	for set := range 1 << n {
		for last := range n {
			end := table[n*set+last]
			if set&(1<<last) == 0 || end == -1 {
				continue
			}
			for i, x2 := range l {
				plates := changeOf(x, l[last].Variants, x2.Variants)
				then := max(end, x2.Ready) + x.Stop + plates*x.Hang + (60*x2.Copies+x.Rate-1)/x.Rate
				number := table[n*(set|1<<i)+i]
				if set&(1<<i) == 0 && then <= x2.Due && (number == -1 || number > then) {
					return false
				}
			}
		}
	}
	return true
}

// P3.4: the chapter's example 4.
func TestWhyExample(t *testing.T) {
	x, want := late()
	if table, e := edition.Why(x); e != api.OK || !slices.Equal(table, want) {
		t.Error(table, e)
	}
	if is, e := edition.Proves(x, want); e != api.OK || !is {
		t.Error(is, e)
	}
	if table, e := edition.Why(example()); e != api.ErrState || table != nil {
		t.Error(table, e)
	}
	if is, e := edition.Proves(example(), want); e != api.OK || is {
		t.Error(is, e)
	}
}

// P3.4: what a table needs, and what does not matter.
func TestProvesChanged(t *testing.T) {
	x, table := late()
	for _, c := range []struct {
		set, last, number int
		want              bool
	}{
		{1, 0, 1499, true}, {1, 0, 0, true}, {1, 0, 1501, false}, {1, 0, -1, false},
		{4, 2, 59, false}, {4, 2, 61, false}, {4, 2, -1, false},
		{5, 0, 1639, true}, {5, 0, 0, true}, {5, 0, 1641, false}, {5, 0, -1, false},
		// An edition that is late need not be -1, but then others may follow on it: 0 after 300 ends at 1840.
		{2, 1, 86400, true}, {2, 1, 84861, true}, {2, 1, 84860, false}, {2, 1, 300, false}, {2, 1, 0, false},
		{3, 1, 86400, true}, {3, 0, 86400, true}, {3, 0, 0, true}, {5, 2, 86400, true}, {6, 1, 86400, true}, {6, 1, 300, false},
		{7, 0, 86400, false}, {7, 1, 86400, false}, {7, 2, 0, false},
		{0, 0, 0, true}, {0, 2, 86400, true}, {1, 1, 0, true}, {1, 2, 0, true}, {2, 0, 0, true}, {5, 1, 0, true}, {6, 0, 0, true},
	} {
		changed := slices.Clone(table)
		changed[3*c.set+c.last] = c.number
		if is, e := edition.Proves(x, changed); e != api.OK || is != c.want {
			t.Error(c, is, e)
		}
	}
}

// P3.4: lists that are no tables.
func TestNotTables(t *testing.T) {
	x, table := late()
	wrong := [][]int{nil, {}, table[:23], append(slices.Clone(table), -1), slices.Repeat([]int{-1}, 48)}
	for i := range table {
		for _, n := range []int{-2, 86401, math.MinInt, math.MaxInt} {
			l := slices.Clone(table)
			l[i] = n
			wrong = append(wrong, l)
		}
	}
	for _, l := range wrong {
		if is, e := edition.Proves(x, l); e != api.ErrArg || is {
			t.Error(l, is, e)
		}
	}
}

// P3.4: the step to another edition leads out of the set, also where a shorter order would be late, as a longer one has changed plates while the press waits.
func TestWhyWaits(t *testing.T) {
	x := waiting()
	x.Zones = append(x.Zones, zone(60, 2, 2))
	x.Zones[1].Due, x.Zones[3].Due = 2000, 0
	table, e := edition.Why(x)
	if e != api.OK || !slices.Equal(table, tableOf(x)) {
		t.Error(table, e)
	}
	// 0, 1, 2 is in time, and so 1 would be behind it, but 0, 2, 1 is not.
	if table[4*7+2] != 1130 || table[4*7+1] != -1 {
		t.Error(table)
	}
	if is, e := edition.Proves(x, table); e != api.OK || !is {
		t.Error(is, e)
	}
}

// P3.4: one edition.
func TestWhyOfOne(t *testing.T) {
	x := blank(1, 1, 0)
	if table, e := edition.Why(x); e != api.ErrState || table != nil {
		t.Error(table, e)
	}
	x.Zones[0].Due = 59
	if table, e := edition.Why(x); e != api.OK || !slices.Equal(table, []int{-1, -1}) {
		t.Error(table, e)
	}
	for _, c := range []struct {
		table []int
		want  bool
	}{{[]int{-1, -1}, true}, {[]int{5, -1}, true}, {[]int{-1, 0}, false}} {
		if is, e := edition.Proves(x, c.table); e != api.OK || is != c.want {
			t.Error(c, is, e)
		}
	}
}

// twistTable changes some numbers of a table, most of them a little.
func twistTable(table []int, rnd *rand.Rand) {
	for range rnd.Intn(4) {
		i := rnd.Intn(len(table))
		switch rnd.Intn(4) {
		case 0:
			table[i] = -1
		case 1:
			table[i] = rnd.Intn(1000)
		default:
			table[i] = max(-1, table[i]+rnd.Intn(3)-1)
		}
	}
}

// P3.4, P3.6: Why has a proof just if no order is in time, and what Proves accepts is true.
func TestAllTables(t *testing.T) {
	rnd := rand.New(rand.NewSource(3))
	var found [2][2]int
	number := map[bool]int{true: 1}
	for range 1000 {
		x := anyTitle(rnd)
		want := tableOf(x)
		n := len(editionsOf(x))
		is := !slices.ContainsFunc(want[len(want)-n:], func(end int) bool { return end >= 0 })
		table, e := edition.Why(x)
		if is && (e != api.OK || !slices.Equal(table, want)) || !is && (e != api.ErrState || table != nil) {
			t.Errorf("%v %v, not %v: %+v", table, e, want, x)
		}
		if _, _, e := edition.Best(x); is != (e == api.ErrNone) {
			t.Errorf("%v: %+v", e, x)
		}
		for i := range 10 {
			changed := slices.Clone(want)
			if i > 0 {
				twistTable(changed, rnd)
			}
			if !is && rnd.Intn(2) == 0 {
				clear(changed)
				changed = append(changed[:len(changed)-n], slices.Repeat([]int{-1}, n)...)
			}
			proves, e := edition.Proves(x, changed)
			if e != api.OK || proves != provesOf(x, changed) || proves && !is || i == 0 && proves != is {
				t.Errorf("%v %v: %v: %+v", proves, e, changed, x)
			}
			found[number[is]][number[proves]]++
		}
	}
	if found[0][1] > 0 || found[1][0] < 500 || found[1][1] < 1000 || found[0][0] < 1000 {
		t.Error(found)
	}
}

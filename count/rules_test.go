package count_test

import (
	"math"
	"math/rand"
	"slices"
	"testing"

	"foldhouse/api"
	"foldhouse/count"
)

// R5: a book that no function returned does nothing.
func TestNoBook(t *testing.T) {
	other := *newBook(t, 10, mark(1, 2, 3))
	for i, b := range []*count.Book{nil, {}, new(count.Book), &other} {
		e1, e2 := b.Mark(mark(1, 2, 3)), b.Mark(mark(0, 0, 0))
		total, e3 := b.Total()
		marks, e4 := b.Marks()
		spans, e5 := b.Spans()
		totals, e6 := b.Totals()
		c, e7 := b.Copy()
		m, e8 := count.Merge(b, newBook(t, 0))
		n, e9 := count.Merge(newBook(t, 0), b)
		for j, e := range []api.Errno{e1, e2, e3, e4, e5, e6, e7, e8, e9} {
			if e != api.ErrNil {
				t.Error(i, j, e)
			}
		}
		if total != 0 || marks != nil || spans != nil || totals != nil || c != nil || m != nil || n != nil {
			t.Error(i, total, marks, spans, totals, c, m, n)
		}
		for _, n := range []int{-1, 0, 10, math.MaxInt} {
			expectNumber(t, b.Cause, n, 0, api.ErrNil)
			expectNumber(t, b.Rank, n, 0, api.ErrNil)
			expectNumber(t, b.Nth, n, 0, api.ErrNil)
		}
	}
}

// R5: books that New, Merge and Copy returned are books.
func TestBooks(t *testing.T) {
	b := newBook(t, 10, mark(2, 3, 6))
	c, _ := b.Copy()
	d, _ := merge(t, c, b).Copy()
	for _, b := range []*count.Book{b, c, d, merge(t, d, d), merge(t, b, c)} {
		expectBook(t, b, 10, []count.Mark{mark(2, 3, 6)})
		expectMark(t, b, mark(1, 0, 0), api.OK)
		expectBook(t, b, 10, []count.Mark{mark(2, 3, 6), mark(1, 0, 0)})
	}
}

// R4: results share no memory with a book, or with each other.
func TestMemoryOfBook(t *testing.T) {
	b := newBook(t, 10, mark(2, 3, 6), mark(1, 5, 8))
	for range 2 {
		marks, _ := b.Marks()
		spans, _ := b.Spans()
		totals, _ := b.Totals()
		clear(marks[:cap(marks)])
		clear(spans[:cap(spans)])
		clear(totals[:cap(totals)])
		expectBook(t, b, 10, []count.Mark{mark(2, 3, 6), mark(1, 5, 8)})
	}
}

// R4: counters, values and prices are not changed, and results share no memory.
func TestMemoryOfCounters(t *testing.T) {
	rnd := rand.New(rand.NewSource(85))
	for range 300 {
		l := anyTree(rnd, 1+rnd.Intn(16), 100, 1000, 10)
		before := slices.Clone(l)
		f, _ := count.Adjust(l)
		values, prices, cost := slices.Clone(f.Values), slices.Clone(f.Prices), f.Cost
		count.Cost(l, f.Values)
		count.Prove(l, f.Prices)
		count.Check(l)
		d, _ := count.Doubt(l)
		doubted := slices.Clone(d)
		if !slices.Equal(l, before) || !slices.Equal(f.Values, values) || !slices.Equal(f.Prices, prices) {
			t.Fatal(l, before, f)
		}
		for i := range f.Values[:cap(f.Values)] {
			f.Values[:cap(f.Values)][i] = -7
		}
		if !slices.Equal(f.Prices, prices) {
			t.Fatal(f.Prices, prices)
		}
		clear(f.Prices)
		clear(d)
		if f, _ = count.Adjust(l); !slices.Equal(f.Values, values) || !slices.Equal(f.Prices, prices) || f.Cost != cost {
			t.Fatal(l, f)
		}
		if d, _ = count.Doubt(l); !slices.Equal(d, doubted) {
			t.Fatal(l, d)
		}
	}
}

// wild returns a number that is mostly near a limit.
func wild(rnd *rand.Rand) int {
	limits := []int{0, 0, 0, 1, 1, 2, 16, 20, 100, 1000000, 1000000000, math.MaxInt, math.MinInt, math.MaxInt / 4}
	return limits[rnd.Intn(len(limits))]*(1-2*rnd.Intn(2)) + rnd.Intn(3) - 1
}

// wildList returns a list of such numbers.
func wildList(rnd *rand.Rand, n int) []int {
	var l []int
	for range n + rnd.Intn(4)/3 {
		l = append(l, wild(rnd))
	}
	return l
}

// P8: no function of counters panics, and with an error there is no other result.
func TestWildCounters(t *testing.T) {
	rnd := rand.New(rand.NewSource(86))
	for range 20000 {
		l := anyTree(rnd, 1+rnd.Intn(17), 100, 1000000, 1000000)
		for range rnd.Intn(3) {
			i := rnd.Intn(len(l))
			switch rnd.Intn(4) {
			case 0:
				l[i].Up = wild(rnd)
			case 1:
				l[i].Weight = wild(rnd)
			case 2:
				l[i].Reading = wild(rnd)
			case 3:
				l[i].Out = wild(rnd)
			}
		}
		want := count.Check(l)
		numbers := wildList(rnd, len(l))
		cost, e1 := count.Cost(l, numbers)
		bound, e2 := count.Prove(l, numbers)
		f, e3 := count.Adjust(l)
		d, e4 := count.Doubt(l)
		if e3 != want || e4 != want || want != api.OK && (e1 != want || e2 != want) {
			t.Fatal(l, want, e1, e2, e3, e4)
		}
		if e1 != api.OK && cost != 0 || e2 != api.OK && bound != 0 || want != api.OK && (f.Values != nil || f.Prices != nil || f.Cost != 0 || d != nil) {
			t.Fatal(l, cost, bound, f, d)
		}
	}
}

// P8: no method of a book panics, and what is refused changes nothing.
func TestWildBooks(t *testing.T) {
	rnd := rand.New(rand.NewSource(87))
	for range 2000 {
		b, e := count.New(wild(rnd))
		if e != api.OK {
			b = newBook(t, rnd.Intn(30))
		}
		total, _ := b.Total()
		var put []count.Mark
		for range rnd.Intn(30) {
			m := mark(wild(rnd), wild(rnd), wild(rnd))
			want := api.OK
			if m.Cause < 1 || m.Cause > 20 {
				want = api.ErrCount
			} else if m.From < 0 || m.From > m.To || m.To >= total {
				want = api.ErrRange
			} else {
				put = append(put, m)
			}
			expectMark(t, b, m, want)
			n := wild(rnd)
			b.Cause(n)
			b.Rank(n)
			b.Nth(n)
		}
		expectMarks(t, b, inOrder(put)...)
		if total < 100 {
			expectBook(t, b, total, put)
		}
	}
}

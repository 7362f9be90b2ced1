package count_test

import (
	"math"
	"math/rand"
	"slices"
	"testing"

	"foldhouse/api"
	"foldhouse/count"
)

// P8.2: the chapter's example 1.
func TestSpansExample(t *testing.T) {
	b := newBook(t, 10, mark(2, 3, 6), mark(1, 5, 8))
	expectSpans(t, b, mark(0, 0, 2), mark(2, 3, 4), mark(1, 5, 8), mark(0, 9, 9))
	expectTotals(t, b, map[int]int{0: 4, 1: 4, 2: 2})
	expectNumber(t, b.Nth, 3, 9, api.OK)
	expectBook(t, b, 10, []count.Mark{mark(1, 5, 8), mark(2, 3, 6)})
}

// P8.2: spans are as long as possible, and reach from the first copy to the last one.
func TestSpans(t *testing.T) {
	for _, c := range []struct {
		total       int
		marks, want []count.Mark
	}{
		{0, nil, nil},
		{1, nil, []count.Mark{mark(0, 0, 0)}},
		{1, []count.Mark{mark(20, 0, 0)}, []count.Mark{mark(20, 0, 0)}},
		{5, []count.Mark{mark(3, 0, 4)}, []count.Mark{mark(3, 0, 4)}},
		{5, []count.Mark{mark(3, 0, 1), mark(3, 2, 4)}, []count.Mark{mark(3, 0, 4)}},
		{5, []count.Mark{mark(3, 0, 2), mark(3, 2, 4)}, []count.Mark{mark(3, 0, 4)}},
		{5, []count.Mark{mark(3, 0, 1), mark(3, 3, 4)}, []count.Mark{mark(3, 0, 1), mark(0, 2, 2), mark(3, 3, 4)}},
		{5, []count.Mark{mark(3, 0, 1), mark(4, 2, 4)}, []count.Mark{mark(3, 0, 1), mark(4, 2, 4)}},
		// A mark that hides others, and one that is hidden.
		{9, []count.Mark{mark(1, 1, 7), mark(2, 2, 3), mark(3, 7, 7)}, []count.Mark{mark(0, 0, 0), mark(1, 1, 7), mark(0, 8, 8)}},
		{9, []count.Mark{mark(5, 0, 8), mark(2, 4, 4)}, []count.Mark{mark(5, 0, 3), mark(2, 4, 4), mark(5, 5, 8)}},
		{9, []count.Mark{mark(2, 0, 3), mark(1, 4, 4), mark(2, 4, 8)}, []count.Mark{mark(2, 0, 3), mark(1, 4, 4), mark(2, 5, 8)}},
		// One mark ends where another one of the same cause begins, below a third one.
		{9, []count.Mark{mark(2, 0, 3), mark(2, 4, 8), mark(7, 2, 5)}, []count.Mark{mark(2, 0, 8)}},
		{1000000, []count.Mark{mark(1, 999999, 999999)}, []count.Mark{mark(0, 0, 999998), mark(1, 999999, 999999)}},
	} {
		expectSpans(t, newBook(t, c.total, c.marks...), c.want...)
		slices.Reverse(c.marks)
		expectSpans(t, newBook(t, c.total, c.marks...), c.want...)
	}
}

// P8.2: numbers of which there is no copy.
func TestCopyErrors(t *testing.T) {
	b := newBook(t, 10, mark(2, 3, 6), mark(1, 5, 8))
	for _, n := range []int{-1, 10, 11, math.MinInt, math.MaxInt} {
		expectNumber(t, b.Cause, n, 0, api.ErrRange)
		if n != 10 {
			expectNumber(t, b.Rank, n, 0, api.ErrRange)
		}
	}
	expectNumber(t, b.Rank, 10, 4, api.OK)
	for _, k := range []int{-1, math.MinInt} {
		expectNumber(t, b.Nth, k, 0, api.ErrRange)
	}
	for _, k := range []int{4, 10, math.MaxInt} {
		expectNumber(t, b.Nth, k, 0, api.ErrNone)
	}
	empty := newBook(t, 0)
	expectNumber(t, empty.Cause, 0, 0, api.ErrRange)
	expectNumber(t, empty.Rank, 0, 0, api.OK)
	expectNumber(t, empty.Rank, 1, 0, api.ErrRange)
	expectNumber(t, empty.Nth, 0, 0, api.ErrNone)
	expectNumber(t, empty.Nth, -1, 0, api.ErrRange)
	expectTotals(t, empty, nil)
	all := newBook(t, 5, mark(4, 0, 4))
	expectNumber(t, all.Nth, 0, 0, api.ErrNone)
	expectNumber(t, all.Rank, 5, 0, api.OK)
}

// P8.2: books of random marks, copy by copy.
func TestAnyBook(t *testing.T) {
	rnd := rand.New(rand.NewSource(82))
	for range 1000 {
		total := 1 + rnd.Intn(60)
		l := anyMarks(rnd, total, rnd.Intn(12))
		expectBook(t, newBook(t, total, l...), total, l)
	}
}

// P8.2: a book that is as large as it may be.
func TestLargeBook(t *testing.T) {
	const total = 1000000
	var l, want []count.Mark
	// Every 500th copy is marked, in turn by two causes in two ways.
	for i := range 1000 {
		n := 500 * i
		l = append(l, mark(2, n, n), mark(1+2*(i%2), n, n+9))
		if i%2 == 0 {
			want = append(want, mark(1, n, n+9))
		} else {
			want = append(want, mark(2, n, n), mark(3, n+1, n+9))
		}
		want = append(want, mark(0, n+10, n+499))
	}
	want[len(want)-1].To = total - 1
	b := newBook(t, total, l...)
	expectMark(t, b, mark(20, 0, 0), api.ErrMany)
	expectSpans(t, b, want...)
	expectTotals(t, b, map[int]int{0: total - 10000, 1: 5000, 2: 500, 3: 4500})
	expectNumber(t, b.Rank, total, total-10000, api.OK)
	expectNumber(t, b.Nth, total-10000-1, total-1, api.OK)
	expectNumber(t, b.Nth, total-10000, 0, api.ErrNone)
	expectNumber(t, b.Nth, 490, 510, api.OK)
	expectNumber(t, b.Rank, 505, 490, api.OK)
	expectNumber(t, b.Cause, 500, 2, api.OK)
	expectNumber(t, b.Cause, 501, 3, api.OK)
}

// P8.4: Totals add up, and are what Spans say; Nth and Rank are inverse to each other.
func TestAddUp(t *testing.T) {
	rnd := rand.New(rand.NewSource(842))
	for range 100 {
		total := 1 + rnd.Intn(1000000)
		b := newBook(t, total, anyMarks(rnd, total, rnd.Intn(40))...)
		spans, _ := b.Spans()
		totals, _ := b.Totals()
		next, sums := 0, make([]int, 21)
		for i, s := range spans {
			if s.From != next || s.To < s.From || i > 0 && spans[i-1].Cause == s.Cause {
				t.Fatal(spans)
			}
			next = s.To + 1
			sums[s.Cause] += next - s.From
			expectNumber(t, b.Cause, s.From, s.Cause, api.OK)
			expectNumber(t, b.Cause, s.To, s.Cause, api.OK)
		}
		if next != total || !slices.Equal(sums, totals) {
			t.Fatal(total, spans, totals)
		}
		expectNumber(t, b.Rank, total, totals[0], api.OK)
		for range 20 {
			if totals[0] == 0 {
				break
			}
			k := rnd.Intn(totals[0])
			n, e := b.Nth(k)
			if cause, _ := b.Cause(n); cause != 0 || e != api.OK {
				t.Fatal(k, n, e)
			}
			expectNumber(t, b.Rank, n, k, api.OK)
			expectNumber(t, b.Rank, n+1, k+1, api.OK)
		}
	}
}

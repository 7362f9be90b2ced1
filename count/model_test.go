package count_test

import (
	"math/rand"
	"slices"
	"testing"

	"foldhouse/api"
	"foldhouse/count"
)

// mark returns a mark.
func mark(cause, from, to int) count.Mark { return count.Mark{Cause: cause, From: from, To: to} }

// newBook returns a book with marks, and fails if there is an error.
func newBook(t *testing.T, total int, l ...count.Mark) *count.Book {
	t.Helper()
	b, e := count.New(total)
	if b == nil || e != api.OK {
		t.Fatal(total, e)
	}
	for _, m := range l {
		expectMark(t, b, m, api.OK)
	}
	return b
}

func expectMark(t *testing.T, b *count.Book, m count.Mark, want api.Errno) {
	t.Helper()
	if e := b.Mark(m); e != want {
		t.Fatal(m, e, want)
	}
}

// expectMarks checks the marks of a book, which are given in their order.
func expectMarks(t *testing.T, b *count.Book, want ...count.Mark) {
	t.Helper()
	if l, e := b.Marks(); !slices.Equal(l, want) || e != api.OK {
		t.Fatal(l, e, want)
	}
}

func expectSpans(t *testing.T, b *count.Book, want ...count.Mark) {
	t.Helper()
	if l, e := b.Spans(); !slices.Equal(l, want) || e != api.OK {
		t.Fatal(l, e, want)
	}
}

// expectTotals checks how many copies have each cause; causes that are not given have none.
func expectTotals(t *testing.T, b *count.Book, want map[int]int) {
	t.Helper()
	all := make([]int, 21)
	for cause, n := range want {
		all[cause] = n
	}
	if l, e := b.Totals(); !slices.Equal(l, all) || e != api.OK {
		t.Fatal(l, e, all)
	}
}

// expectNumber checks a number, or its error.
func expectNumber(t *testing.T, f func(n int) (int, api.Errno), n, want int, code api.Errno) {
	t.Helper()
	if got, e := f(n); got != want || e != code {
		t.Fatal(n, got, e, want, code)
	}
}

// causes returns the cause of each copy, by the words of the chapter.
func causes(total int, l []count.Mark) []int {
	causes := make([]int, total)
	for n := range causes {
		for _, m := range l {
			if m.From <= n && n <= m.To && (causes[n] == 0 || m.Cause < causes[n]) {
				causes[n] = m.Cause
			}
		}
	}
	return causes
}

// expectBook checks all that a book tells, copy by copy.
func expectBook(t *testing.T, b *count.Book, total int, l []count.Mark) {
	t.Helper()
	if n, e := b.Total(); n != total || e != api.OK {
		t.Fatal(n, e)
	}
	var spans []count.Mark
	totals := map[int]int{}
	rank := 0
	for n, cause := range causes(total, l) {
		expectNumber(t, b.Cause, n, cause, api.OK)
		expectNumber(t, b.Rank, n, rank, api.OK)
		if cause == 0 {
			expectNumber(t, b.Nth, rank, n, api.OK)
			rank++
		}
		totals[cause]++
		if last := len(spans) - 1; n > 0 && spans[last].Cause == cause {
			spans[last].To = n
		} else {
			spans = append(spans, mark(cause, n, n))
		}
	}
	expectNumber(t, b.Rank, total, rank, api.OK)
	expectNumber(t, b.Nth, rank, 0, api.ErrNone)
	expectSpans(t, b, spans...)
	expectTotals(t, b, totals)
	expectMarks(t, b, inOrder(l)...)
}

// inOrder returns marks in increasing order, each once.
func inOrder(l []count.Mark) []count.Mark {
	l = slices.Clone(l)
	slices.SortFunc(l, func(a, b count.Mark) int {
		return slices.Compare([]int{a.Cause, a.From, a.To}, []int{b.Cause, b.From, b.To})
	})
	return slices.Compact(l)
}

// anyMarks returns marks of a book with some copies, many of which touch or overlap.
func anyMarks(rnd *rand.Rand, total, n int) []count.Mark {
	var l []count.Mark
	highest := 1 + rnd.Intn(20)
	longest := 1 + rnd.Intn(total)
	for range n {
		from := rnd.Intn(total)
		l = append(l, mark(1+rnd.Intn(highest), from, min(total-1, from+rnd.Intn(longest))))
	}
	return l
}

// ladder returns marks that are all different, of copies 0 to 99, from one on.
func ladder(from, n int) []count.Mark {
	var l []count.Mark
	for i := from; i < from+n; i++ {
		l = append(l, mark(1+i%20, i/20%100, 99))
	}
	return l
}

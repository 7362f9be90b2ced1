package count_test

import (
	"math"
	"math/rand"
	"slices"
	"testing"

	"foldhouse/api"
	"foldhouse/count"
)

// P8.1: books of all sizes.
func TestNew(t *testing.T) {
	for _, total := range []int{0, 1, 2, 999999, 1000000} {
		b := newBook(t, total)
		if n, e := b.Total(); n != total || e != api.OK {
			t.Error(n, e)
		}
		expectMarks(t, b)
	}
	for _, total := range []int{-1, 1000001, math.MinInt, math.MaxInt} {
		if b, e := count.New(total); b != nil || e != api.ErrRange {
			t.Error(total, e)
		}
	}
}

// P8.1: marks that are not allowed, which leave the book as it was.
func TestMarkErrors(t *testing.T) {
	b := newBook(t, 10, mark(20, 0, 9), mark(1, 9, 9), mark(1, 0, 0))
	for _, cause := range []int{0, -1, 21, math.MinInt, math.MaxInt} {
		for _, m := range []count.Mark{mark(cause, 0, 0), mark(cause, -1, 0), mark(cause, 3, 2), mark(cause, 0, 10)} {
			expectMark(t, b, m, api.ErrCount)
		}
	}
	for _, m := range []count.Mark{
		mark(1, -1, 0), mark(1, -1, -1), mark(1, 3, 2), mark(1, 0, 10), mark(1, 10, 10), mark(1, 10, 9),
		mark(1, math.MinInt, math.MaxInt), mark(1, 0, math.MaxInt), mark(1, math.MinInt, 0), mark(1, math.MaxInt, math.MaxInt),
	} {
		expectMark(t, b, m, api.ErrRange)
	}
	expectMark(t, newBook(t, 0), mark(1, 0, 0), api.ErrRange)
	expectMark(t, newBook(t, 0), mark(1, 0, -1), api.ErrRange)
	expectMark(t, newBook(t, 1000000), mark(1, 0, 1000000), api.ErrRange)
	expectMarks(t, b, mark(1, 0, 0), mark(1, 9, 9), mark(20, 0, 9))
}

// P8.1: marks are returned in order, each once.
func TestMarks(t *testing.T) {
	b := newBook(t, 30, mark(3, 2, 5), mark(2, 20, 29), mark(3, 2, 4), mark(2, 3, 29), mark(10, 0, 0), mark(3, 2, 5), mark(3, 1, 9))
	expectMarks(t, b, mark(2, 3, 29), mark(2, 20, 29), mark(3, 1, 9), mark(3, 2, 4), mark(3, 2, 5), mark(10, 0, 0))
	b = newBook(t, 1000000, mark(20, 999999, 999999), mark(1, 0, 999999))
	expectMarks(t, b, mark(1, 0, 999999), mark(20, 999999, 999999))
}

// P8.1: a book takes 2000 marks, and then those that it has.
func TestManyMarks(t *testing.T) {
	l := ladder(0, 2000)
	b := newBook(t, 100, l...)
	more := mark(1, 0, 98)
	expectMark(t, b, more, api.ErrMany)
	expectMark(t, b, mark(1, 0, 100), api.ErrRange)
	expectMark(t, b, mark(21, 0, 98), api.ErrCount)
	for _, m := range l {
		expectMark(t, b, m, api.OK)
	}
	expectMarks(t, b, inOrder(l)...)
	b = newBook(t, 100, l[1:]...)
	expectMark(t, b, l[1], api.OK)
	expectMark(t, b, more, api.OK)
	expectMark(t, b, l[0], api.ErrMany)
}

// P8.1: a book and its copy do not know of each other.
func TestCopy(t *testing.T) {
	b := newBook(t, 10, mark(2, 3, 6))
	c, e := b.Copy()
	if c == nil || e != api.OK {
		t.Fatal(e)
	}
	expectMark(t, b, mark(1, 0, 0), api.OK)
	expectMark(t, c, mark(3, 9, 9), api.OK)
	expectBook(t, b, 10, []count.Mark{mark(1, 0, 0), mark(2, 3, 6)})
	expectBook(t, c, 10, []count.Mark{mark(2, 3, 6), mark(3, 9, 9)})
	empty, e := newBook(t, 3).Copy()
	if e != api.OK {
		t.Fatal(e)
	}
	expectMark(t, empty, mark(1, 0, 0), api.OK)
	d, e := c.Copy()
	if e != api.OK {
		t.Fatal(e)
	}
	expectMark(t, d, mark(1, 1, 1), api.OK)
	expectMarks(t, c, mark(2, 3, 6), mark(3, 9, 9))
}

// merge merges books, and fails if there is an error.
func merge(t *testing.T, a, b *count.Book) *count.Book {
	t.Helper()
	m, e := count.Merge(a, b)
	if m == nil || e != api.OK {
		t.Fatal(e)
	}
	return m
}

// P8.1: a book with the marks of both, which stay as they are.
func TestMerge(t *testing.T) {
	a, b := newBook(t, 10, mark(2, 3, 6), mark(1, 0, 0)), newBook(t, 10, mark(2, 3, 6), mark(5, 5, 9))
	m := merge(t, a, b)
	expectBook(t, m, 10, []count.Mark{mark(1, 0, 0), mark(2, 3, 6), mark(5, 5, 9)})
	expectMark(t, m, mark(7, 7, 7), api.OK)
	expectMark(t, a, mark(8, 8, 8), api.OK)
	expectMark(t, b, mark(9, 9, 9), api.OK)
	expectMarks(t, m, mark(1, 0, 0), mark(2, 3, 6), mark(5, 5, 9), mark(7, 7, 7))
	expectMarks(t, a, mark(1, 0, 0), mark(2, 3, 6), mark(8, 8, 8))
	expectMarks(t, b, mark(2, 3, 6), mark(5, 5, 9), mark(9, 9, 9))
	expectMark(t, merge(t, newBook(t, 5), newBook(t, 5)), mark(1, 0, 4), api.OK)
	// A book merged with itself is another book.
	expectMark(t, merge(t, a, a), mark(1, 1, 1), api.OK)
	expectMarks(t, a, mark(1, 0, 0), mark(2, 3, 6), mark(8, 8, 8))
}

// P8.1: books that cannot be merged.
func TestMergeErrors(t *testing.T) {
	refuse := func(a, b *count.Book, want api.Errno) {
		t.Helper()
		for range 2 {
			if m, e := count.Merge(a, b); m != nil || e != want {
				t.Error(e, want)
			}
			a, b = b, a
		}
	}
	l := ladder(0, 2000)
	full := newBook(t, 100, l...)
	refuse(full, nil, api.ErrNil)
	refuse(full, &count.Book{}, api.ErrNil)
	refuse(nil, nil, api.ErrNil)
	refuse(&count.Book{}, &count.Book{}, api.ErrNil)
	refuse(full, newBook(t, 99), api.ErrArg)
	refuse(full, newBook(t, 101, mark(1, 0, 98)), api.ErrArg)
	refuse(full, newBook(t, 100, mark(1, 0, 98)), api.ErrMany)
	refuse(full, newBook(t, 100, append(ladder(0, 1999), mark(1, 0, 98))...), api.ErrMany)
	refuse(newBook(t, 100, l[:1001]...), newBook(t, 100, append(l[1001:], mark(1, 0, 98))...), api.ErrMany)
	expectMarks(t, merge(t, newBook(t, 100, l[:1500]...), newBook(t, 100, l[500:]...)), inOrder(l)...)
	expectMarks(t, merge(t, full, full), inOrder(l)...)
	expectMarks(t, merge(t, full, newBook(t, 100)), inOrder(l)...)
}

// P8.4: a book does not hang on the order of its marks; merging is commutative and associative.
func TestOrder(t *testing.T) {
	rnd := rand.New(rand.NewSource(81))
	for range 300 {
		total := 1 + rnd.Intn(40)
		var books []*count.Book
		var all []count.Mark
		for range 3 {
			l := anyMarks(rnd, total, rnd.Intn(8))
			all = append(all, l...)
			books = append(books, newBook(t, total, l...))
		}
		a, b, c := books[0], books[1], books[2]
		rnd.Shuffle(len(all), func(i, j int) { all[i], all[j] = all[j], all[i] })
		expectBook(t, newBook(t, total, all...), total, all)
		expectBook(t, merge(t, merge(t, a, b), c), total, all)
		expectBook(t, merge(t, a, merge(t, b, c)), total, all)
		expectBook(t, merge(t, c, merge(t, b, a)), total, all)
		marks, _ := a.Marks()
		expectBook(t, merge(t, a, a), total, marks)
		expectBook(t, merge(t, a, newBook(t, total)), total, marks)
	}
}

// P8.4: more marks never make a copy good.
func TestMoreMarks(t *testing.T) {
	rnd := rand.New(rand.NewSource(84))
	for range 100 {
		total := 1 + rnd.Intn(30)
		b := newBook(t, total)
		last := make([]int, total)
		for _, m := range anyMarks(rnd, total, 10) {
			expectMark(t, b, m, api.OK)
			for n := range total {
				cause, _ := b.Cause(n)
				if last[n] != 0 && (cause == 0 || cause > last[n]) {
					t.Fatal(m, n, last[n], cause)
				}
				last[n] = cause
			}
			if totals, _ := b.Totals(); totals[0] != total-len(slices.DeleteFunc(slices.Clone(last), func(c int) bool { return c == 0 })) {
				t.Fatal(totals, last)
			}
		}
	}
}

package count

import (
	"cmp"
	"maps"
	"slices"

	"foldhouse/api"
)

// Book has marks.
type Book struct {
	// made is the book itself, so that one that no function returned can be told.
	made  *Book
	total int
	marks map[Mark]bool
}

// New returns a book without marks.
func New(total int) (*Book, api.Errno) {
	if !within(total, 0, api.MaxCopies) {
		return nil, api.ErrRange
	}
	return newBook(total, map[Mark]bool{}), api.OK
}

// Merge returns a book with the marks of both.
func Merge(a, b *Book) (*Book, api.Errno) {
	if !a.isMade() || !b.isMade() {
		return nil, api.ErrNil
	}
	if a.total != b.total {
		return nil, api.ErrArg
	}
	marks := maps.Clone(a.marks)
	maps.Copy(marks, b.marks)
	if len(marks) > MaxMarks {
		return nil, api.ErrMany
	}
	return newBook(a.total, marks), api.OK
}

func newBook(total int, marks map[Mark]bool) *Book {
	b := &Book{total: total, marks: marks}
	b.made = b
	return b
}

func (b *Book) isMade() bool { return b != nil && b.made == b }

// Mark puts in a mark.
func (b *Book) Mark(m Mark) api.Errno {
	if !b.isMade() {
		return api.ErrNil
	}
	if !within(m.Cause, 1, MaxCause) {
		return api.ErrCount
	}
	if !within(m.From, 0, m.To) || m.To >= b.total {
		return api.ErrRange
	}
	if !b.marks[m] && len(b.marks) == MaxMarks {
		return api.ErrMany
	}
	b.marks[m] = true
	return api.OK
}

// Total returns the number of copies.
func (b *Book) Total() (int, api.Errno) {
	if !b.isMade() {
		return 0, api.ErrNil
	}
	return b.total, api.OK
}

// Marks returns all marks, in increasing order of Cause, From and To.
func (b *Book) Marks() ([]Mark, api.Errno) {
	if !b.isMade() {
		return nil, api.ErrNil
	}
	return slices.SortedFunc(maps.Keys(b.marks), compare), api.OK
}

func compare(a, b Mark) int {
	return cmp.Or(cmp.Compare(a.Cause, b.Cause), cmp.Compare(a.From, b.From), cmp.Compare(a.To, b.To))
}

// Copy returns a copy of a book.
func (b *Book) Copy() (*Book, api.Errno) {
	if !b.isMade() {
		return nil, api.ErrNil
	}
	return newBook(b.total, maps.Clone(b.marks)), api.OK
}

// Cause returns the cause of a copy.
func (b *Book) Cause(n int) (int, api.Errno) {
	if !b.isMade() {
		return 0, api.ErrNil
	}
	if !within(n, 0, b.total-1) {
		return 0, api.ErrRange
	}
	var c cover
	for m := range b.marks {
		if within(n, m.From, m.To) {
			c[m.Cause]++
		}
	}
	return c.cause(), api.OK
}

// Spans returns the copies as spans of one cause each, as long as possible, in order.
func (b *Book) Spans() ([]Mark, api.Errno) {
	if !b.isMade() {
		return nil, api.ErrNil
	}
	return slices.Collect(b.spans()), api.OK
}

// Totals returns for each cause how many copies have it.
func (b *Book) Totals() ([]int, api.Errno) {
	if !b.isMade() {
		return nil, api.ErrNil
	}
	totals := make([]int, MaxCause+1)
	for s := range b.spans() {
		totals[s.Cause] += s.length()
	}
	return totals, api.OK
}

// Rank returns how many good copies there are before a copy.
func (b *Book) Rank(n int) (int, api.Errno) {
	if !b.isMade() {
		return 0, api.ErrNil
	}
	if !within(n, 0, b.total) {
		return 0, api.ErrRange
	}
	rank := 0
	for s := range b.good() {
		if s.From >= n {
			break
		}
		rank += min(s.length(), n-s.From)
	}
	return rank, api.OK
}

// Nth returns the number of a good copy.
func (b *Book) Nth(k int) (int, api.Errno) {
	if !b.isMade() {
		return 0, api.ErrNil
	}
	if k < 0 {
		return 0, api.ErrRange
	}
	for s := range b.good() {
		if k < s.length() {
			return s.From + k, api.OK
		}
		k -= s.length()
	}
	return 0, api.ErrNone
}

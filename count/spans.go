package count

import (
	"cmp"
	"iter"
	"slices"
)

// cover says how many marks of each cause a copy is in.
type cover [MaxCause + 1]int

// cause returns the least cause of all marks, or 0 if there is none.
func (c cover) cause() int {
	for cause, marks := range c {
		if marks > 0 {
			return cause
		}
	}
	return 0
}

// change says that from a copy on there is a mark of a cause more, or less.
type change struct{ at, cause, by int }

// changes returns where marks begin and end, in order of the copies.
func (b *Book) changes() []change {
	var l []change
	for m := range b.marks {
		l = append(l, change{m.From, m.Cause, 1}, change{m.To + 1, m.Cause, -1})
	}
	// Changes at one copy may stand in any order, as spans counts all of them before it looks at the copy.
	slices.SortFunc(l, func(x, y change) int { return cmp.Compare(x.at, y.at) })
	return l
}

// spans yields the copies as spans of one cause each, as long as possible, in order.
func (b *Book) spans() iter.Seq[Mark] {
	return func(yield func(s Mark) bool) {
		var now cover
		from, cause := 0, 0
		changes := b.changes()
		for i, c := range changes {
			now[c.cause] += c.by
			if i+1 < len(changes) && changes[i+1].at == c.at || now.cause() == cause {
				continue
			}
			if from < c.at && !yield(Mark{Cause: cause, From: from, To: c.at - 1}) {
				return
			}
			from, cause = c.at, now.cause()
		}
		if from < b.total {
			yield(Mark{Cause: cause, From: from, To: b.total - 1})
		}
	}
}

// good yields the spans of good copies.
func (b *Book) good() iter.Seq[Mark] {
	return func(yield func(s Mark) bool) {
		for s := range b.spans() {
			if s.Cause == 0 && !yield(s) {
				return
			}
		}
	}
}

// length returns how many copies a span has.
func (m Mark) length() int { return m.To - m.From + 1 }

package works

import "foldhouse/count"

// tally says what became of the copies that were printed. It has them as spans of one cause each, as long as possible, in order; good copies have the cause 0.
type tally []count.Mark

func length(s count.Mark) int { return s.To - s.From + 1 }

// printed returns how many copies there are.
func (t tally) printed() int {
	if len(t) == 0 {
		return 0
	}
	return t[len(t)-1].To + 1
}

// add puts in copies more of a cause; none, if copies is not above 0.
func (t *tally) add(cause, copies int) {
	if copies <= 0 {
		return
	}
	first, last := t.printed(), len(*t)-1
	if last < 0 || (*t)[last].Cause != cause {
		*t = append(*t, count.Mark{Cause: cause, From: first})
		last++
	}
	(*t)[last].To = first + copies - 1
}

// lose returns a tally in which the last copies are lost. Those that were not good before keep their cause, which is less.
func (t tally) lose(copies int) tally {
	first := t.printed() - copies
	var out tally
	for _, s := range t {
		before := min(max(0, first-s.From), length(s))
		out.add(s.Cause, before)
		if s.Cause == 0 {
			s.Cause = Lost
		}
		out.add(s.Cause, length(s)-before)
	}
	return out
}

// rank returns how many good copies there are before a copy.
func (t tally) rank(copy int) int {
	rank := 0
	for _, s := range t {
		if s.Cause == 0 {
			rank += max(0, min(s.To+1, copy)-s.From)
		}
	}
	return rank
}

// cause returns the cause of a copy.
func (t tally) cause(copy int) int {
	for _, s := range t {
		if copy <= s.To {
			return s.Cause
		}
	}
	return 0
}

// marks returns the spans of the copies that are not good.
func (t tally) marks() []count.Mark {
	var marks []count.Mark
	for _, s := range t {
		if s.Cause != 0 {
			marks = append(marks, s)
		}
	}
	return marks
}

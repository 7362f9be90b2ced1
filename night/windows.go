package night

import (
	"iter"
	"slices"
)

// decisions say on which machine each job is done, and which jobs are done before another one.
type decisions struct {
	on     [MaxJobs]int
	before [MaxJobs][MaxJobs]bool
}

func undecided() decisions {
	var d decisions
	for i := range d.on {
		d.on[i] = open
	}
	return d
}

func (d decisions) choose(job, machine int) decisions {
	d.on[job] = machine
	return d
}

func (d decisions) order(a, b int) decisions {
	d.before[a][b] = true
	return d
}

// attempt asks for a machine that works for some minutes on end.
type attempt struct{ machine, from, minutes int }

// search is a night at work: it remembers the beginnings that it has looked for.
type search struct {
	Night
	tried map[attempt]int
}

func newSearch(n Night) *search { return &search{n, map[attempt]int{}} }

// windows returns the least beginning of each job that follows from decisions.
func (s *search) windows(d decisions) []int {
	begins := slices.Repeat([]int{never}, len(s.Jobs))
	// A chain of jobs is not longer than their number; jobs in a circle never begin.
	for range s.Jobs {
		s.advance(begins, d)
	}
	return begins
}

// advance finds the beginnings of those jobs of which all that must come before have one.
func (s *search) advance(begins []int, d decisions) {
jobs:
	for b, job := range s.Jobs {
		from := job.From
		for a := range s.Jobs {
			if !s.mustPrecede(a, b, d) {
				continue
			}
			if begins[a] == never {
				continue jobs
			}
			from = max(from, begins[a]+s.Jobs[a].Length+s.pause(a, b, d))
		}
		begins[b] = s.begin(attempt{d.on[b], from, job.Length})
	}
}

func (s *search) mustPrecede(a, b int, d decisions) bool {
	return d.before[a][b] || slices.Contains(s.Jobs[b].After, a)
}

// pause returns the minutes that must be between a job and one behind it.
func (s *search) pause(a, b int, d decisions) int {
	if d.on[a] == open || d.on[b] == open {
		return 0
	}
	return s.transfer(d.on[a], d.on[b])
}

// begin returns the first minute at which a job can begin.
func (s *search) begin(a attempt) int {
	begin, known := s.tried[a]
	if !known {
		begin = s.tryBegin(a)
		s.tried[a] = begin
	}
	return begin
}

func (s *search) tryBegin(a attempt) int {
	if a.machine == open {
		if a.from+a.minutes > MaxTime {
			return never
		}
		return a.from
	}
	begin, next := a.from, a.from
	for minute := range s.Machines[a.machine].minutes(a.from) {
		if minute != next {
			begin = minute
		}
		next = minute + 1
		if next-begin == a.minutes {
			return begin
		}
	}
	return never
}

// minutes yields the minutes at which a machine works, from one on.
func (m Machine) minutes(from int) iter.Seq[int] {
	return func(yield func(minute int) bool) {
		minute := from
		for _, d := range m.Down {
			for ; minute < d.Lo; minute++ {
				if !yield(minute) {
					return
				}
			}
			minute = max(minute, d.Hi+1)
		}
		for ; minute < MaxTime; minute++ {
			if !yield(minute) {
				return
			}
		}
	}
}

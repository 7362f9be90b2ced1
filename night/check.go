package night

import (
	"slices"

	"foldhouse/api"
)

// within reports whether a number is from lo to hi.
func within(n, lo, hi int) bool { return lo <= n && n <= hi }

// areMinutes reports whether two numbers are the first and the last one of some minutes.
func areMinutes(first, last int) bool { return within(first, 0, last) && last < MaxTime }

// rise reports whether numbers from 0 on, that are less than a bound, are strictly increasing.
func rise(l []int, bound int) bool {
	last := -1
	for _, n := range l {
		if !within(n, last+1, bound-1) {
			return false
		}
		last = n
	}
	return true
}

func (m Machine) isRight() bool {
	if !within(m.Works, 0, 1) || len(m.Down) > MaxDown {
		return false
	}
	first := 0
	for _, d := range m.Down {
		if d.Lo < first || !areMinutes(d.Lo, d.Hi) {
			return false
		}
		// The minute behind an interval would adjoin it.
		first = d.Hi + 2
	}
	return true
}

// isRight reports whether the numbers of a job are right, but for the machines and jobs that it names.
func (j Job) isRight() bool {
	return within(len(j.Machines), 1, maxChoices) && within(j.Length, 1, maxLength) &&
		within(j.To, 0, MaxTime) && within(j.From, 0, j.latest())
}

// latest returns the last minute at which a job can begin.
func (j Job) latest() int { return j.To - j.Length }

func (n Night) isJob(job int) bool { return within(job, 0, len(n.Jobs)-1) }

func (n Night) isMachine(machine int) bool { return within(machine, 0, len(n.Machines)-1) }

// checkPlan returns the first error of a night and of a plan.
func checkPlan(n Night, plan []Place) api.Errno {
	if e := Check(n); e != api.OK {
		return e
	}
	if len(plan) != len(n.Jobs) {
		return api.ErrArg
	}
	for i := range plan {
		if e := n.checkPlace(plan, i); e != api.OK {
			return e
		}
	}
	return api.OK
}

// checkPlace returns the error of the place of a job, if those of the jobs before it in the list have none.
func (n Night) checkPlace(plan []Place, job int) api.Errno {
	j, p := n.Jobs[job], plan[job]
	switch {
	case !slices.Contains(j.Machines, p.Machine):
		return api.ErrNight
	case !within(p.Begin, j.From, j.latest()) || !n.keepsAfter(plan, job):
		return api.ErrTime
	case n.isDown(plan, job) || n.isTaken(plan, job):
		return api.ErrState
	}
	return api.OK
}

func (n Night) keepsAfter(plan []Place, job int) bool {
	p := plan[job]
	for _, a := range n.Jobs[job].After {
		if p.Begin < n.end(plan, a)+n.transfer(plan[a].Machine, p.Machine) {
			return false
		}
	}
	return true
}

func (n Night) isDown(plan []Place, job int) bool {
	taken := n.minutes(plan, job)
	return slices.ContainsFunc(n.Machines[plan[job].Machine].Down, func(d api.Span) bool { return meet(d, taken) })
}

// isTaken reports whether the machine of a job does one before it in the list in one of its minutes.
func (n Night) isTaken(plan []Place, job int) bool {
	for a := range job {
		if n.collide(plan, a, job) {
			return true
		}
	}
	return false
}

// collide reports whether two jobs are on one machine in the same minute.
func (n Night) collide(plan []Place, a, b int) bool {
	return plan[a].Machine == plan[b].Machine && meet(n.minutes(plan, a), n.minutes(plan, b))
}

func meet(a, b api.Span) bool { return a.Lo <= b.Hi && b.Lo <= a.Hi }

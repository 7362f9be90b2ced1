package night

import (
	"cmp"
	"slices"

	"foldhouse/api"
)

// change is a night that events change, with the plan that it has followed.
type change struct {
	Night
	plan []Place
}

func newChange(n Night, plan []Place) *change {
	n.Machines, n.Jobs = slices.Clone(n.Machines), slices.Clone(n.Jobs)
	for i := range n.Machines {
		n.Machines[i].Down = slices.Clone(n.Machines[i].Down)
	}
	for i := range n.Jobs {
		n.Jobs[i].Machines = slices.Clone(n.Jobs[i].Machines)
		n.Jobs[i].After = slices.Clone(n.Jobs[i].After)
	}
	return &change{n, plan}
}

// follow lets events have their effect, and returns their first error, or else that of the night that has come of them.
func (c *change) follow(l []Event) api.Errno {
	if len(l) > MaxEvents {
		return api.ErrMany
	}
	effects := map[int]func(c *change, x Event) api.Errno{
		LatePage: (*change).beLate,
		Failure:  (*change).fail,
		Fixed:    (*change).beFixed,
	}
	for _, x := range l {
		effect, is := effects[x.Kind]
		if !is {
			return api.ErrArg
		}
		if e := effect(c, x); e != api.OK {
			return e
		}
	}
	return Check(c.Night)
}

func (c *change) beLate(x Event) api.Errno {
	if !c.isJob(x.A) {
		return api.ErrArg
	}
	if !areMinutes(x.At, x.At) {
		return api.ErrRange
	}
	c.delay(x.A, x.At)
	return api.OK
}

func (c *change) fail(x Event) api.Errno {
	if !c.isMachine(x.A) {
		return api.ErrArg
	}
	if !areMinutes(x.At, x.Until) {
		return api.ErrRange
	}
	m := &c.Machines[x.A]
	m.Down = join(m.Down, api.Span{Lo: x.At, Hi: x.Until})
	return api.OK
}

func (c *change) beFixed(x Event) api.Errno {
	if !c.isJob(x.A) || len(c.plan) != len(c.Jobs) {
		return api.ErrArg
	}
	c.fix(x.A)
	return api.OK
}

func (c *change) delay(job, from int) {
	j := &c.Jobs[job]
	j.From = max(j.From, from)
}

func (c *change) fix(job int) {
	j, p := &c.Jobs[job], c.plan[job]
	j.Machines = []int{p.Machine}
	j.From, j.To = p.Begin, c.end(c.plan, job)
}

// reach fixes the jobs that have begun before a minute; the others begin then or later.
func (c *change) reach(now int) {
	for i, p := range c.plan {
		if p.Begin < now {
			c.fix(i)
		} else {
			c.delay(i, now)
		}
	}
}

// join returns intervals, with one more, that neither overlap nor adjoin.
func join(l []api.Span, more api.Span) []api.Span {
	var joined []api.Span
	for _, s := range l {
		if s.Hi+1 < more.Lo || more.Hi+1 < s.Lo {
			joined = append(joined, s)
		} else {
			more = api.Span{Lo: min(s.Lo, more.Lo), Hi: max(s.Hi, more.Hi)}
		}
	}
	joined = append(joined, more)
	slices.SortFunc(joined, func(a, b api.Span) int { return cmp.Compare(a.Lo, b.Lo) })
	return joined
}

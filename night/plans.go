package night

import (
	"cmp"
	"slices"

	"foldhouse/api"
)

// cost says when the last job of a plan ends, and what the ends of all its jobs are together.
type cost struct{ last, sum int }

func (n Night) cost(plan []Place) cost {
	var c cost
	for i := range plan {
		end := n.end(plan, i)
		c.last, c.sum = max(c.last, end), c.sum+end
	}
	return c
}

// compare compares two plans: the lesser one is the better one.
func (n Night) compare(a, b []Place) int {
	costA, costB := n.cost(a), n.cost(b)
	return cmp.Or(cmp.Compare(costA.last, costB.last), cmp.Compare(costA.sum, costB.sum), slices.CompareFunc(a, b, Place.compare))
}

func (p Place) compare(other Place) int {
	return cmp.Or(cmp.Compare(p.Machine, other.Machine), cmp.Compare(p.Begin, other.Begin))
}

// end returns the minute behind the last one of a job.
func (n Night) end(plan []Place, job int) int { return plan[job].Begin + n.Jobs[job].Length }

// minutes returns the minutes that a job takes.
func (n Night) minutes(plan []Place, job int) api.Span {
	return api.Span{Lo: plan[job].Begin, Hi: n.end(plan, job) - 1}
}

// transfer returns the minutes from a machine to another one.
func (n Night) transfer(a, b int) int {
	if n.Machines[a].Works == n.Machines[b].Works {
		return 0
	}
	return n.Transfer
}

// delayed returns a plan in which a job begins later.
func delayed(plan []Place, job, minutes int) []Place {
	l := slices.Clone(plan)
	l[job].Begin += minutes
	return l
}

package night_test

import (
	"math"
	"math/rand"
	"slices"
	"testing"

	"foldhouse/api"
	"foldhouse/night"
)

func expectPlan(t *testing.T, name string, n night.Night, want ...night.Place) {
	t.Helper()
	plan, e := night.Plan(n)
	if e != api.OK || !slices.Equal(plan, want) {
		t.Error(name, plan, e)
	}
}

func expectNone(t *testing.T, name string, n night.Night) {
	t.Helper()
	if plan, e := night.Plan(n); plan != nil || e != api.ErrNone {
		t.Error(name, plan, e)
	}
}

// P12.2: the examples, and what makes a plan less.
func TestPlan(t *testing.T) {
	expectPlan(t, "example 1", example(), least()...)
	expectPlan(t, "example 2", down(0, 200), places(0, 0, 0, 20, 0, 80)...)
	expectNone(t, "example 2 until 130", impossible())
	expectPlan(t, "no jobs", machines(1, 0))
	both := []int{0, 1}
	night1 := func(jobs ...night.Job) night.Night {
		return night.Night{Machines: make([]night.Machine, 2), Jobs: jobs}
	}
	expectPlan(t, "the last end before the sum", night1(
		night.Job{Machines: []int{0}, Length: 9, From: 1, To: 20, After: nil},
		night.Job{Machines: []int{0}, Length: 1, To: 20}), places(0, 1, 0, 0)...)
	expectPlan(t, "an earlier last end with a greater sum", night1(
		night.Job{Machines: []int{0}, Length: 10, To: 100},
		night.Job{Machines: []int{0}, Length: 1, From: 2, To: 100}), places(0, 0, 0, 10)...)
	expectPlan(t, "the sum before the machines", night1(
		night.Job{Machines: []int{0}, Length: 10, To: 100},
		night.Job{Machines: both, Length: 2, To: 100}), places(0, 0, 1, 0)...)
	expectPlan(t, "a shorter job first", night1(
		night.Job{Machines: []int{0}, Length: 9, To: 100},
		night.Job{Machines: []int{0}, Length: 1, To: 100}), places(0, 1, 0, 0)...)
	expectPlan(t, "the first machine", night1(
		night.Job{Machines: both, Length: 3, To: 100},
		night.Job{Machines: both, Length: 3, To: 100}), places(0, 0, 1, 0)...)
	expectPlan(t, "the first beginning", night1(
		night.Job{Machines: []int{1}, Length: 3, To: 100},
		night.Job{Machines: []int{1}, Length: 3, To: 100}), places(1, 0, 1, 3)...)
	expectPlan(t, "up to the end of the night", night1(
		night.Job{Machines: both, Length: 600, From: 840, To: 1440}), places(0, 840)...)
}

// P12.2: jobs that a Down lets in, and those that it keeps out.
func TestPlanDown(t *testing.T) {
	at := func(length, to int, l ...api.Span) night.Night {
		return night.Night{Machines: []night.Machine{{Down: l}}, Jobs: []night.Job{{Machines: []int{0}, Length: length, To: to}}}
	}
	gap := []api.Span{{Lo: 0, Hi: 9}, {Lo: 15, Hi: 19}, {Lo: 40, Hi: 1439}}
	expectPlan(t, "the first gap", at(5, 100, gap...), places(0, 10)...)
	expectPlan(t, "the second gap", at(6, 100, gap...), places(0, 20)...)
	expectPlan(t, "all of the second gap", at(20, 40, gap...), places(0, 20)...)
	expectNone(t, "no gap", at(21, 100, gap...))
	expectNone(t, "a gap that is too late", at(6, 25, gap...))
	expectNone(t, "always down", at(1, 1440, api.Span{Lo: 0, Hi: 1439}))
	expectPlan(t, "the last minute", at(1, 1440, api.Span{Lo: 0, Hi: 1438}), places(0, 1439)...)
}

// P12.2, P12.5: Plan finds the least of all right plans of small nights, and Least knows it.
func TestLeastOfAll(t *testing.T) {
	rnd := rand.New(rand.NewSource(2))
	found, none, others := 0, 0, 0
	for range 1500 {
		n := anySmallNight(rnd)
		best, right := bruteLeast(n)
		plan, e := night.Plan(n)
		if right == 0 {
			none++
			if e != api.ErrNone || plan != nil {
				t.Error(n, plan, e)
			}
			continue
		}
		found++
		if e != api.OK || !slices.Equal(plan, best) {
			t.Error(n, plan, best, e)
		}
		allPlans(n, func(plan []night.Place) {
			if rnd.Intn(right) > 20 {
				return
			}
			is, e := night.Least(n, plan)
			if e != api.OK || is != slices.Equal(plan, best) {
				t.Error(n, plan, is, e)
			}
			others++
		})
	}
	if found < 400 || none < 200 || others < 3000 {
		t.Error("not enough", found, none, others)
	}
}

// rowsPlan places the jobs of an order one after the other on their machines, each as early as it can be.
func rowsPlan(n night.Night, order, on []int) ([]night.Place, bool) {
	plan := make([]night.Place, len(order))
	placed := make([]bool, len(order))
	for _, job := range order {
		j, m := n.Jobs[job], on[job]
		begin := j.From
		for a := range order {
			pause, after := 0, slices.Contains(j.After, a)
			if after && !placed[a] {
				return nil, false
			}
			if after && n.Machines[on[a]].Works != n.Machines[m].Works {
				pause = n.Transfer
			}
			if after || placed[a] && on[a] == m {
				begin = max(begin, plan[a].Begin+n.Jobs[a].Length+pause)
			}
		}
		for minute := begin; minute < begin+j.Length; minute++ {
			if isDown(n.Machines[m], minute) {
				begin = minute + 1
			}
		}
		if begin+j.Length > j.To {
			return nil, false
		}
		plan[job], placed[job] = night.Place{Machine: m, Begin: begin}, true
	}
	return plan, true
}

// permutations calls a function for each order of the numbers below n.
func permutations(n int, visit func(order []int)) {
	order := make([]int, 0, n)
	var extend func()
	extend = func() {
		if len(order) == n {
			visit(order)
		}
		for i := range n {
			if !slices.Contains(order, i) {
				order = append(order, i)
				extend()
				order = order[:len(order)-1]
			}
		}
	}
	extend()
}

// choices calls a function for each choice of the machines of all jobs.
func choices(n night.Night, visit func(on []int)) {
	on := make([]int, len(n.Jobs))
	var choose func(job int)
	choose = func(job int) {
		if job == len(on) {
			visit(on)
			return
		}
		for _, m := range n.Jobs[job].Machines {
			on[job] = m
			choose(job + 1)
		}
	}
	choose(0)
}

// P12.2: the least plan of a whole night is the least one of all orders and machines.
func TestPlanOfManyJobs(t *testing.T) {
	rnd := rand.New(rand.NewSource(3))
	found := 0
	for range 60 {
		n := anyNight(rnd, 3, 5+rnd.Intn(2), 100+rnd.Intn(1000))
		for i := range n.Jobs {
			n.Jobs[i].To = 1440
		}
		var best []night.Place
		permutations(len(n.Jobs), func(order []int) {
			choices(n, func(on []int) {
				plan, is := rowsPlan(n, order, on)
				if is && (best == nil || isLess(n, plan, best)) {
					best = plan
				}
			})
		})
		plan, _ := night.Plan(n)
		if !slices.Equal(plan, best) {
			t.Error(n, plan, best)
		}
		if best != nil {
			found++
		}
	}
	if found < 40 {
		t.Error("not enough", found)
	}
}

// easier returns a night with more time, more machines for a job, or less Down.
func easier(rnd *rand.Rand, n night.Night) night.Night {
	n = copyOf(n)
	if len(n.Jobs) == 0 {
		return n
	}
	j, m := &n.Jobs[rnd.Intn(len(n.Jobs))], &n.Machines[rnd.Intn(len(n.Machines))]
	switch rnd.Intn(4) {
	case 0:
		j.To += rnd.Intn(3)
	case 1:
		j.From -= rnd.Intn(j.From + 1)
	case 2:
		for machine := range n.Machines {
			if len(j.Machines) < 3 && !slices.Contains(j.Machines, machine) {
				j.Machines = append(j.Machines, machine)
			}
		}
		slices.Sort(j.Machines)
	case 3:
		if len(m.Down) > 0 {
			m.Down = m.Down[1:]
		}
	}
	return n
}

// P12.5: a night with more time, more machines for a job, or less Down has no worse plan.
func TestEasierNights(t *testing.T) {
	rnd := rand.New(rand.NewSource(4))
	better, equal := 0, 0
	for range 10000 {
		n := anyNight(rnd, 1+rnd.Intn(4), rnd.Intn(6), 15+rnd.Intn(20))
		plan, e := night.Plan(n)
		more := easier(rnd, n)
		other, f := night.Plan(more)
		switch {
		case e != api.OK && f == api.OK:
			better++
		case e != api.OK:
		case f != api.OK || isLess(more, plan, other):
			t.Error(n, plan, more, other, f)
		case slices.Equal(plan, other):
			equal++
		default:
			better++
		}
	}
	if better < 500 || equal < 500 {
		t.Error("not enough", better, equal)
	}
}

func expectSlack(t *testing.T, n night.Night, plan []night.Place, job, want int) {
	t.Helper()
	if minutes, e := night.Slack(n, plan, job); minutes != want || e != api.OK {
		t.Error(n, plan, job, minutes, e, want)
	}
}

// P12.4: how much later jobs could begin, and jobs that there are not.
func TestSlack(t *testing.T) {
	for job, want := range []int{0, 20, 30} {
		expectSlack(t, example(), least(), job, want)
	}
	expectSlack(t, down(120, 130), least(), 2, 10)
	expectSlack(t, down(0, 30), least(), 2, 30)
	row := machines(1, 2)
	row.Jobs[0].To, row.Jobs[1].To = 20, 12
	expectSlack(t, row, places(0, 3, 0, 9), 0, 16)
	row.Jobs[0].Length = 11
	expectSlack(t, row, places(0, 0, 0, 11), 0, 0)
	row.Jobs[0].To = 23
	expectSlack(t, row, places(0, 0, 0, 11), 0, 12)
	gap := machines(1, 1)
	gap.Machines[0].Down = []api.Span{{Lo: 10, Hi: 1438}}
	expectSlack(t, gap, places(0, 4), 0, 1435)
	for _, job := range []int{-1, 3, math.MinInt, math.MaxInt} {
		if minutes, e := night.Slack(example(), least(), job); minutes != 0 || e != api.ErrArg {
			t.Error(job, minutes, e)
		}
	}
	if minutes, e := night.Slack(machines(1, 0), nil, 0); minutes != 0 || e != api.ErrArg {
		t.Error(minutes, e)
	}
}

// P12.4: the slack is the greatest delay of all with which the plan is right.
func TestAnySlack(t *testing.T) {
	rnd := rand.New(rand.NewSource(5))
	some, none, over := 0, 0, 0
	for range 4000 {
		n := anyNight(rnd, 1+rnd.Intn(3), 1+rnd.Intn(5), 12+rnd.Intn(40))
		plan, e := night.Plan(n)
		if e != api.OK {
			continue
		}
		job := rnd.Intn(len(plan))
		greatest, gaps := 0, 0
		for later := 1; later < 60; later++ {
			other := slices.Clone(plan)
			other[job].Begin += later
			if planError(n, other) == api.OK {
				gaps += later - 1 - greatest
				greatest = later
			}
		}
		expectSlack(t, n, plan, job, greatest)
		if greatest > 0 {
			some++
		} else {
			none++
		}
		if gaps > 0 {
			over++
		}
	}
	if some < 300 || none < 300 || over < 50 {
		t.Error("not enough", some, none, over)
	}
}

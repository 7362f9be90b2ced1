package night_test

import (
	"cmp"
	"math/rand"
	"slices"

	"foldhouse/api"
	"foldhouse/night"
)

// example returns the night of example 1 of the chapter.
func example() night.Night {
	return night.Night{
		Machines: []night.Machine{{}, {Works: 1}},
		Jobs: []night.Job{
			{Machines: []int{0}, Length: 20, To: 1440},
			{Machines: []int{0, 1}, Length: 60, To: 100, After: []int{0}},
			{Machines: []int{0, 1}, Length: 60, To: 140, After: []int{0}},
		},
		Transfer: 30,
	}
}

func changed(change func(n *night.Night)) night.Night {
	n := example()
	change(&n)
	return n
}

// impossible returns the night of example 2 of the chapter that has no right plan.
func impossible() night.Night {
	return changed(func(n *night.Night) {
		n.Machines[1].Down = []api.Span{{Lo: 0, Hi: 200}}
		n.Jobs[2].To = 130
	})
}

// places makes a plan of machines and beginnings, one after the other.
func places(l ...int) []night.Place {
	var plan []night.Place
	for i := 0; i < len(l); i += 2 {
		plan = append(plan, night.Place{Machine: l[i], Begin: l[i+1]})
	}
	return plan
}

// least is the plan of example 1.
func least() []night.Place { return places(0, 0, 0, 20, 1, 50) }

// isDown says, minute by minute, whether a machine does not work.
func isDown(m night.Machine, minute int) bool {
	return slices.ContainsFunc(m.Down, func(s api.Span) bool { return s.Lo <= minute && minute <= s.Hi })
}

// placeError says, minute by minute, what is wrong with the place of a job.
func placeError(n night.Night, plan []night.Place, job int) api.Errno {
	j, p := n.Jobs[job], plan[job]
	if !slices.Contains(j.Machines, p.Machine) {
		return api.ErrNight
	}
	if p.Begin < j.From || p.Begin > 2000 || p.Begin+j.Length > j.To {
		return api.ErrTime
	}
	for _, a := range j.After {
		ready := plan[a].Begin + n.Jobs[a].Length
		if n.Machines[plan[a].Machine].Works != n.Machines[p.Machine].Works {
			ready += n.Transfer
		}
		if p.Begin < ready {
			return api.ErrTime
		}
	}
	for minute := p.Begin; minute < p.Begin+j.Length; minute++ {
		if isDown(n.Machines[p.Machine], minute) {
			return api.ErrState
		}
		for a := range job {
			if plan[a].Machine == p.Machine && plan[a].Begin <= minute && minute < plan[a].Begin+n.Jobs[a].Length {
				return api.ErrState
			}
		}
	}
	return api.OK
}

func planError(n night.Night, plan []night.Place) api.Errno {
	if len(plan) != len(n.Jobs) {
		return api.ErrArg
	}
	for i := range plan {
		if e := placeError(n, plan, i); e != api.OK {
			return e
		}
	}
	return api.OK
}

// lastAndSum returns the end of the last job, and the sum of all ends.
func lastAndSum(n night.Night, plan []night.Place) (int, int) {
	last, sum := 0, 0
	for i, p := range plan {
		end := p.Begin + n.Jobs[i].Length
		last, sum = max(last, end), sum+end
	}
	return last, sum
}

// isLess compares two plans with the chapter's words.
func isLess(n night.Night, a, b []night.Place) bool {
	lastA, sumA := lastAndSum(n, a)
	lastB, sumB := lastAndSum(n, b)
	if lastA != lastB {
		return lastA < lastB
	}
	if sumA != sumB {
		return sumA < sumB
	}
	for i := range a {
		if a[i].Machine != b[i].Machine {
			return a[i].Machine < b[i].Machine
		}
		if a[i].Begin != b[i].Begin {
			return a[i].Begin < b[i].Begin
		}
	}
	return false
}

// allPlans calls a function for each right plan of a night, found by trying all places.
func allPlans(n night.Night, visit func(plan []night.Place)) {
	plan := make([]night.Place, len(n.Jobs))
	var place func(job int)
	place = func(job int) {
		if job == len(plan) {
			visit(plan)
			return
		}
		for _, m := range n.Jobs[job].Machines {
			for begin := range n.Jobs[job].To {
				plan[job] = night.Place{Machine: m, Begin: begin}
				if placeError(n, plan, job) == api.OK {
					place(job + 1)
				}
			}
		}
	}
	place(0)
}

// bruteLeast returns the least right plan, if there is one, and how many right plans there are.
func bruteLeast(n night.Night) ([]night.Place, int) {
	var best []night.Place
	right := 0
	allPlans(n, func(plan []night.Place) {
		if right == 0 || isLess(n, plan, best) {
			best = slices.Clone(plan)
		}
		right++
	})
	return best, right
}

// modelWindows raises the beginnings over and over, until nothing follows any more.
func modelWindows(n night.Night, on []int, before [][2]int) []int {
	begins := make([]int, len(n.Jobs))
	raise := func(job int) int {
		j := n.Jobs[job]
		begin := max(j.From, begins[job])
		wait := func(a, pause int) {
			if begins[a] == -1 {
				begin = night.MaxTime
				return
			}
			begin = max(begin, begins[a]+n.Jobs[a].Length+pause)
		}
		for _, a := range j.After {
			pause := 0
			if on[a] != -1 && on[job] != -1 && n.Machines[on[a]].Works != n.Machines[on[job]].Works {
				pause = n.Transfer
			}
			wait(a, pause)
		}
		for _, p := range before {
			if p[1] == job {
				wait(p[0], 0)
			}
		}
		works := func() bool {
			for minute := begin; minute < begin+j.Length; minute++ {
				if on[job] != -1 && isDown(n.Machines[on[job]], minute) {
					return false
				}
			}
			return true
		}
		for !works() {
			begin++
		}
		if begin+j.Length > night.MaxTime {
			return -1
		}
		return begin
	}
	for again := true; again; {
		again = false
		for job := range begins {
			if begins[job] == -1 {
				continue
			}
			if begin := raise(job); begin != begins[job] {
				begins[job], again = begin, true
			}
		}
	}
	return begins
}

// modelDecisions are what the way to a node decides.
type modelDecisions struct {
	on     []int
	before [][2]int
}

func (d modelDecisions) choose(job, machine int) modelDecisions {
	on := slices.Clone(d.on)
	on[job] = machine
	return modelDecisions{on, d.before}
}

func (d modelDecisions) order(a, b int) modelDecisions {
	return modelDecisions{d.on, append(slices.Clone(d.before), [2]int{a, b})}
}

func nothingDecided(n night.Night) modelDecisions {
	return modelDecisions{on: slices.Repeat([]int{-1}, len(n.Jobs))}
}

// areBeyond returns the jobs that are beyond their To, with some decisions.
func areBeyond(n night.Night, d modelDecisions) []int {
	var l []int
	for i, begin := range modelWindows(n, d.on, d.before) {
		if begin == -1 || begin+n.Jobs[i].Length > n.Jobs[i].To {
			l = append(l, i)
		}
	}
	return l
}

// modelProves follows a proof from its first node to all others.
func modelProves(n night.Night, proof []night.Node) bool {
	if len(proof) == 0 {
		return false
	}
	visits := make([]int, len(proof))
	isJob := func(i int) bool { return 0 <= i && i < len(n.Jobs) }
	var follow func(i int, d modelDecisions) bool
	child := func(parent, i int, d modelDecisions) bool {
		return parent < i && i < len(proof) && follow(i, d)
	}
	follow = func(i int, d modelDecisions) bool {
		x := proof[i]
		visits[i]++
		if visits[i] > 1 || !isJob(x.A) {
			return false
		}
		switch x.Kind {
		case 1:
			if d.on[x.A] != -1 {
				return false
			}
			for k, m := range n.Jobs[x.A].Machines {
				if !child(i, x.First+k, d.choose(x.A, m)) {
					return false
				}
			}
			return true
		case 2:
			return isJob(x.B) && x.A != x.B && d.on[x.A] != -1 && d.on[x.A] == d.on[x.B] &&
				child(i, x.First, d.order(x.A, x.B)) && child(i, x.Second, d.order(x.B, x.A))
		case 3:
			return slices.Contains(areBeyond(n, d), x.A)
		}
		return false
	}
	return follow(0, nothingDecided(n)) && !slices.Contains(visits, 0)
}

// anyList returns so many numbers below a bound, strictly increasing.
func anyList(rnd *rand.Rand, count, bound int) []int {
	l := rnd.Perm(bound)[:count]
	slices.Sort(l)
	return l
}

// anyDown returns intervals of minutes before an end.
func anyDown(rnd *rand.Rand, count, end int) []api.Span {
	var l []api.Span
	ends := anyList(rnd, min(2*count, end), end)
	for i := 0; i+1 < len(ends); i += 2 {
		if s := (api.Span{Lo: ends[i], Hi: ends[i+1]}); len(l) == 0 || l[len(l)-1].Hi+1 < s.Lo {
			l = append(l, s)
		}
	}
	return l
}

// anyNight returns a night whose jobs end before a minute.
func anyNight(rnd *rand.Rand, machines, jobs, end int) night.Night {
	n := night.Night{Transfer: rnd.Intn(end/3 + 1)}
	for range machines {
		n.Machines = append(n.Machines, night.Machine{Works: rnd.Intn(2), Down: anyDown(rnd, rnd.Intn(3), end)})
	}
	for i := range jobs {
		j := night.Job{Machines: anyList(rnd, 1+rnd.Intn(min(machines, 3)), machines), Length: 1 + rnd.Intn(end/3)}
		j.To = end - rnd.Intn(end-j.Length+1)/(1+rnd.Intn(3))
		j.From = rnd.Intn(j.To-j.Length+1) / (1 + rnd.Intn(4))
		j.After = anyList(rnd, rnd.Intn(i+1)/(1+rnd.Intn(3)), i)
		n.Jobs = append(n.Jobs, j)
	}
	return n
}

// anySmallNight returns a night all of whose plans can be tried.
func anySmallNight(rnd *rand.Rand) night.Night {
	return anyNight(rnd, 1+rnd.Intn(3), rnd.Intn(5), 6+rnd.Intn(4))
}

// copyOf returns a night that shares no memory with another one.
func copyOf(n night.Night) night.Night {
	n.Machines, n.Jobs = slices.Clone(n.Machines), slices.Clone(n.Jobs)
	for i := range n.Machines {
		n.Machines[i].Down = slices.Clone(n.Machines[i].Down)
	}
	for i := range n.Jobs {
		n.Jobs[i].Machines, n.Jobs[i].After = slices.Clone(n.Jobs[i].Machines), slices.Clone(n.Jobs[i].After)
	}
	return n
}

func sameNight(a, b night.Night) bool {
	return a.Transfer == b.Transfer && slices.EqualFunc(a.Machines, b.Machines, func(a, b night.Machine) bool {
		return a.Works == b.Works && slices.Equal(a.Down, b.Down)
	}) && slices.EqualFunc(a.Jobs, b.Jobs, func(a, b night.Job) bool {
		return cmp.Or(cmp.Compare(a.Length, b.Length), cmp.Compare(a.From, b.From), cmp.Compare(a.To, b.To),
			slices.Compare(a.Machines, b.Machines), slices.Compare(a.After, b.After)) == 0
	})
}

func isNoNight(n night.Night) bool { return n.Machines == nil && n.Jobs == nil && n.Transfer == 0 }
